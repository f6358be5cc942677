package lex

import (
	"slices"
	"strconv"
	"strings"
	"testing"

	"resolvent/api"
)

// short tells tokens in a line: the kind, the text or the number, and a ( if it is Open.
func short(l []Token) string {
	var b strings.Builder
	for _, t := range l {
		if b.Len() > 0 {
			b.WriteByte(' ')
		}
		b.WriteString([]string{"?", "a", "q", "v", "i", "s", "end", "none"}[t.Kind])
		if t.Kind == TokInt {
			b.WriteString(strconv.FormatInt(t.N, 10))
		}
		b.WriteString(t.Text)
		if t.Open {
			b.WriteString("^")
		}
	}
	return b.String()
}

func TestTokens(t *testing.T) {
	for text, want := range map[string]string{
		"":                           "none",
		" \t\r\n":                    "none",
		"p(X):-q.":                   "ap^ s( vX s) a:- aq end none",
		"'a b' % x":                  "qa b none",
		"a.b":                        "aa a. ab none",
		"1.5":                        "i1 a. i5 none",
		"a. b.%c\n.":                 "aa end ab end end none",
		"a./*":                       "aa a./* none",
		"a.(":                        "aa a.^ s( none",
		"a/* x */b/**/c":             "aa ab ac none",
		"a*/* x */":                  "aa a*/* ax a*/ none",
		"% all\nb % more":            "ab none",
		"%":                          "none",
		"/* * / **/x":                "ax none",
		"!;,|()[]":                   "a! a; s, s|^ s( s) s[ s] none",
		"!!;;":                       "a! a! a; a; none",
		"_ _x X1 xY_9 Aa":            "v_ v_x vX1 axY_9 vAa none",
		"=.. \\== :- @=<":            "a=.. a\\== a:- a@=< none",
		"'' 'it''s' '\\\\\\'\\n\\t'": "q qit's q\\'\n\t none",
		"'a''b'(c)":                  "qa'b^ s( ac s) none",
		"''''":                       "q' none",
		"0 007 9223372036854775807":  "i0 i7 i9223372036854775807 none",
		"1-2":                        "i1 a- i2 none",
		"X(((":                       "vX^ s(^ s(^ s( none",
		"1(":                         "i1^ s( none",
		"a (":                        "aa s( none",
		"[]":                         "s[ s] none",
		"z Zz aZ09_ '~ {' ":          "az vZz aaZ09_ q~ { none",
		"+-*/\\^<>=~:.?@#&$":         "a+-*/\\^<>=~:.?@#&$ none",
	} {
		l, at, err := Lex(text)
		if at != 0 || err != api.OK || short(l) != want {
			t.Errorf("%q: %s %d %d", text, short(l), at, err)
		}
	}
}

func TestPlaces(t *testing.T) {
	l, _, _ := Lex("ab  (X) /* */ 'q' 12.")
	var at []int
	for _, x := range l {
		at = append(at, x.At)
	}
	if !slices.Equal(at, []int{0, 4, 5, 6, 14, 18, 20, 21}) {
		t.Error("places", at)
	}
	if l[len(l)-1] != (Token{Kind: TokNone, At: 21}) {
		t.Error("the last one")
	}
}

func TestErrors(t *testing.T) {
	long := strings.Repeat("a", api.MaxName+1)
	for _, c := range []struct {
		text string
		at   int
		err  api.Errno
	}{
		{strings.Repeat(" ", api.MaxText+1), 0, api.ErrLong},
		{"\x00" + strings.Repeat(" ", api.MaxText), 0, api.ErrLong},
		{"b " + long, 2, api.ErrLong},
		{"X" + long, 0, api.ErrLong},
		{" _" + long, 1, api.ErrLong},
		{"a " + strings.Repeat("+", api.MaxName+1), 2, api.ErrLong},
		{"'" + long + "'", 0, api.ErrLong},
		{"'" + long, 0, api.ErrLex},
		{"'" + long + "\n'", 0, api.ErrLex},
		{"'" + long + "\\x'", 0, api.ErrLex},
		{"1x", 0, api.ErrLex},
		{"1_000", 0, api.ErrLex},
		{"a 12A", 2, api.ErrLex},
		{"a 9223372036854775808", 2, api.ErrLex},
		{"99999999999999999999999999999999999999", 0, api.ErrLex},
		{"'abc", 0, api.ErrLex},
		{"a 'b''", 2, api.ErrLex},
		{"'\\", 0, api.ErrLex},
		{"'\\q'", 0, api.ErrLex},
		{"'a\tb'", 0, api.ErrLex},
		{"'a\x7fb'", 0, api.ErrLex},
		{"a /* b", 2, api.ErrLex},
		{"/*/", 0, api.ErrLex},
		{"a {", 2, api.ErrLex},
		{"\"", 0, api.ErrLex},
		{"`", 0, api.ErrLex},
		{"a\x0b", 1, api.ErrLex},
		{"é", 0, api.ErrLex},
		{"{ " + long, 0, api.ErrLex},
		{long + " {", 0, api.ErrLong},
	} {
		l, at, err := Lex(c.text)
		if l != nil || at != c.at || err != c.err {
			t.Errorf("%q: %s %d %d", c.text, short(l), at, err)
		}
	}
}

func TestGreatest(t *testing.T) {
	name := strings.Repeat("a", api.MaxName)
	for _, text := range []string{name, "A" + name[1:], "'" + name + "'", strings.Repeat("+", api.MaxName), "'" + strings.Repeat("''", api.MaxName) + "'", strings.Repeat("0", api.MaxText-1) + "1", strings.Repeat(" ", api.MaxText)} {
		if l, _, err := Lex(text); err != api.OK || len(l) > 2 {
			t.Errorf("%q: %d", text, err)
		}
	}
}

func TestBlanksMoreChangePlacesAlone(t *testing.T) {
	parts := []string{"p", "(", "X", ",", "'a b'", ",", "12", ")", ":-", "q", ";", "[", "_", "|", "T", "]", "!", "."}
	strip := func(text string) string {
		l, _, err := Lex(text)
		if err != api.OK {
			t.Fatal(text, err)
		}
		return strings.ReplaceAll(short(l), "^", "")
	}
	want := strip(strings.Join(parts, " "))
	for _, between := range []string{"  ", "\n", "\t\r ", " % x\n", " /* . */ "} {
		if got := strip(strings.Join(parts, between)); got != want {
			t.Errorf("%q: %s", between, got)
		}
	}
}

func TestAnyBytesEnd(t *testing.T) {
	n := uint32(7)
	for range 3000 {
		b := make([]byte, n%40)
		for i := range b {
			n = n*1664525 + 1013904223
			b[i] = byte(n >> 24)
			if n>>20&3 > 0 {
				b[i] = "aX_1'\\.%/*( ,+\n"[n>>16%15]
			}
		}
		n = n*1664525 + 1013904223
		l, at, err := Lex(string(b))
		if (err == api.OK) != (len(l) > 0) || at < 0 || at > len(b) || err == api.OK && l[len(l)-1].At != len(b) {
			t.Fatalf("%q: %d %d", b, at, err)
		}
	}
}
