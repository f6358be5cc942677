package parse

import (
	"slices"
	"strconv"
	"strings"
	"testing"

	"resolvent/api"
	"resolvent/term"
)

// plain tells a term with nothing but names, numbers and parentheses.
func plain(t api.Term) string {
	switch t.Kind {
	case api.Var:
		return "X" + strconv.FormatInt(t.N, 10)
	case api.Int:
		return strconv.FormatInt(t.N, 10)
	case api.Atom:
		return t.Name
	}
	var l []string
	for _, a := range t.Args {
		l = append(l, plain(a))
	}
	return t.Name + "(" + strings.Join(l, ", ") + ")"
}

func TestTerms(t *testing.T) {
	for text, want := range map[string]string{
		"":                           "",
		"a:-b,c.":                    ":-(a, ,(b, c))",
		"1-2-3. X=f(X,_).":           "-(-(1, 2), 3) =(X0, f(X0, X1))",
		"- 1. -1. -(1). \\+a=b.":     "-(1) -1 -(1) \\+(=(a, b))",
		"[a,b|T].":                   ".(a, .(b, X0))",
		"[]. [ ]. [a]. [a|b].":       "[] [] .(a, []) .(a, b)",
		"'[]'(a). '[]'.":             "[](a) []",
		"a:-b;c->d,e.":               ":-(a, ;(b, ->(c, ,(d, e))))",
		"a;b;c. a->b->c. a,b,c.":     ";(a, ;(b, c)) ->(a, ->(b, c)) ,(a, ,(b, c))",
		":-a. :- - a.":               ":-(a) :-(-(a))",
		"1*2//3 rem 4 mod 5.":        "mod(rem(//(*(1, 2), 3), 4), 5)",
		"1+2*3-4.":                   "-(+(1, *(2, 3)), 4)",
		"a-(b-c).":                   "-(a, -(b, c))",
		"-a*b. - 1+2. - -1. - - 1.":  "*(-(a), b) +(-(1), 2) -(-1) -(-(1))",
		"1 -1. 1-1. 1 - -1. a- 1.":   "-(1, 1) -(1, 1) -(1, -1) -(a, 1)",
		"-(1,2). - (1,2). a -(1).":   "-(1, 2) -(,(1, 2)) -(a, 1)",
		"- = x. = = = . - - - .":     "=(-, x) =(=, =) -(-(-))",
		"[-]. [-|X]. f(-,+). - .":    ".(-, []) .(-, X0) f(-, +) -",
		"\\+ \\+a. \\+ (a,b).":       "\\+(\\+(a)) \\+(,(a, b))",
		"f(:-). f((:-a)). f((a,b)).": "f(:-) f(:-(a)) f(,(a, b))",
		"'-'1.":                      "!",
		"X is 1, Y=:=2.":             ",(is(X0, 1), =:=(X1, 2))",
		"f(A,B,A,_,_). A.":           "f(X0, X1, X0, X2, X3) X0",
		"!. ; . a:-!,b.":             "! ; :-(a, ,(!, b))",
		"(((a))). (a:-b). ((a),b).":  "a :-(a, b) ,(a, b)",
		"','(a,b). ':-'(a).":         ",(a, b) :-(a)",
		"'-'(1). a'-'.":              "!",
		"- (=). = . - = .":           "!",
		"\\+ = . \\+(=).":            "!",
		"- =(a,b). -X. -f(x).":       "-(=(a, b)) -(X0) -(f(x))",
		"a=b:-c.":                    ":-(=(a, b), c)",
		"x= \\+ . x= -1. x= -y.":     "=(x, \\+) =(x, -1) =(x, -(y))",
		"is. rem. mod(1,2).":         "is rem mod(1, 2)",
		". ":                         "!",
	} {
		l, at, err := Terms(text)
		var got []string
		for _, r := range l {
			got = append(got, plain(r.T))
			if !term.Good(r.T) {
				t.Errorf("%q is no good term", text)
			}
		}
		if want == "!" {
			if err != api.ErrParse || l != nil {
				t.Errorf("%q: %v %d", text, got, err)
			}
		} else if at != 0 || err != api.OK || strings.Join(got, " ") != want {
			t.Errorf("%q: %v %d %d", text, got, at, err)
		}
	}
}

func TestNames(t *testing.T) {
	l, _, _ := Terms("f(X,_,Y,_,X). a. g(Y).")
	if len(l) != 3 || !slices.Equal(l[0].Names, []string{"X", "_", "Y", "_"}) || len(l[1].Names) != 0 || !slices.Equal(l[2].Names, []string{"Y"}) {
		t.Error("names", l)
	}
}

func TestErrors(t *testing.T) {
	vars := func(n int) string {
		var l []string
		for i := range n {
			l = append(l, "[V"+strconv.Itoa(i)+"]")
		}
		return strings.Join(l, "+")
	}
	for _, c := range []struct {
		text string
		at   int
		err  api.Errno
	}{
		{"a=b=c.", 3, api.ErrParse},
		{"f(a b).", 4, api.ErrParse},
		{"a", 1, api.ErrParse},
		{"p(", 2, api.ErrParse},
		{"p(;", 3, api.ErrParse},
		{"f().", 2, api.ErrParse},
		{"f(a,).", 4, api.ErrParse},
		{"[a,].", 3, api.ErrParse},
		{"[|a].", 1, api.ErrParse},
		{"[a|b,c].", 4, api.ErrParse},
		{"[a|b", 4, api.ErrParse},
		{"(a.", 2, api.ErrParse},
		{"a).", 1, api.ErrParse},
		{"X(a).", 1, api.ErrParse},
		{"f (a).", 2, api.ErrParse},
		{"[](a).", 2, api.ErrParse},
		{":-a:-b.", 3, api.ErrParse},
		{"f(a:-b).", 3, api.ErrParse},
		{"f(:-a).", 4, api.ErrParse},
		{"X= \\+a.", 5, api.ErrParse},
		{"a. b c.", 5, api.ErrParse},
		{"\\+ = .", 5, api.ErrParse},
		{"a \\= .", 5, api.ErrParse},
		{"a | b.", 2, api.ErrParse},
		{"--1.", 2, api.ErrParse},
		{"a {", 2, api.ErrLex},
		{"a b 1x", 4, api.ErrLex},
		{strings.Repeat("a. ", 3000), 0, api.ErrLong},
		{"f(" + vars(api.MaxVars+1) + ").", 185, api.ErrLong},
		{vars(20) + ") " + vars(20), 109, api.ErrParse},
	} {
		l, at, err := Terms(c.text)
		if l != nil || err != c.err || at != c.at {
			t.Errorf("%q: %d %d", c.text, at, err)
		}
	}
	if _, _, err := Terms(vars(api.MaxVars) + ". " + vars(api.MaxVars) + "."); err != api.OK {
		t.Error("MaxVars variables in each term", err)
	}
}

func TestLongAndDeep(t *testing.T) {
	args := func(n int) string { return "f(" + strings.Repeat("a,", n-1) + "a)" }
	nest := func(open string, n int, inner, shut string) string {
		return strings.Repeat(open, n) + inner + strings.Repeat(shut, n)
	}
	for i, c := range []struct {
		text string
		err  api.Errno
	}{
		{args(api.MaxArity), api.OK},
		{args(api.MaxArity + 1), api.ErrLong},
		{nest("s(", 63, "a", ")"), api.OK},
		{nest("s(", 64, "a", ")"), api.ErrDeep},
		{nest("(", 63, "a", ")"), api.OK},
		{nest("(", 64, "a", ")"), api.ErrDeep},
		{nest("(", 64, ")", ")"), api.ErrParse},
		{nest("[", 63, "a", "]"), api.OK},
		{nest("\\+ ", 63, "a", ""), api.OK},
		{nest("\\+ ", 64, "a", ""), api.ErrDeep},
		{nest("(", 64, "(", ")"), api.ErrDeep},
		{nest("a,", 63, "a", ""), api.OK},
		{nest("a,", 64, "a", ""), api.ErrDeep},
		{nest("a,", 64, "a", ")"), api.ErrDeep},
		{nest("a,", 64, "", ")"), api.ErrParse},
		{nest("a-", 63, "a", ""), api.OK},
		{nest("a-", 64, "a", " b"), api.ErrDeep},
		{"[" + nest("a,", 62, "a", "") + "]", api.OK},
		{"[" + nest("a,", 63, "a", "") + "]", api.ErrDeep},
		{"[" + nest("a,", 63, "a", ""), api.ErrParse},
		{"[" + nest("a,", 63, "a", "|]"), api.ErrParse},
		{"f(" + nest("a,", 20, nest("s(", 62, "a", ")"), "") + ")", api.ErrLong},
		{"f(" + nest("s(", 64, "a", ")") + nest(",a", 20, "", "") + ")", api.ErrDeep},
		{"f(" + nest("a,", 20, "a", "") + "," + nest("s(", 64, "a", ")") + ")", api.ErrDeep},
		{"f(" + nest("a,", 20, "a", "") + "),(" + nest("s(", 64, "a", ")") + ")", api.ErrLong},
	} {
		l, at, err := Terms(c.text + ".")
		if err != c.err || (l != nil) != (err == api.OK) || at < 0 || at > len(c.text) {
			t.Errorf("%d: %d at %d", i, err, at)
		}
	}
}

func TestOperators(t *testing.T) {
	for _, c := range []struct {
		names   string
		p, l, r int
	}{
		{":-", 1200, 1199, 1199}, {";", 1100, 1099, 1100}, {"->", 1050, 1049, 1050}, {",", 1000, 999, 1000},
		{`= \= == \== @< @> @=< @>= is =:= =\= < > =< >=`, 700, 699, 699},
		{"+ -", 500, 500, 499}, {"* // rem mod", 400, 400, 399},
	} {
		for _, name := range strings.Fields(c.names) {
			if p, l, r, ok := Infix(name); !ok || p != c.p || l != c.l || r != c.r {
				t.Error("Infix", name, p, l, r)
			}
		}
	}
	for _, name := range []string{"", `\+`, "a", "|", "=..", "/", "**", "!"} {
		if p, l, r, ok := Infix(name); ok || p != 0 || l != 0 || r != 0 {
			t.Error("Infix", name)
		}
	}
	for name, want := range map[string][2]int{":-": {1200, 1199}, `\+`: {900, 900}, "-": {200, 200}} {
		if p, r, ok := Prefix(name); !ok || p != want[0] || r != want[1] {
			t.Error("Prefix", name)
		}
	}
	for _, name := range []string{"", "+", "=", ",", "is", "?-"} {
		if p, r, ok := Prefix(name); ok || p != 0 || r != 0 {
			t.Error("Prefix", name)
		}
	}
}

func TestBlanksAndParenthesesChangeNothing(t *testing.T) {
	one, _, _ := Terms("p(X):-q(X,[a|Y]),\\+r= -1.")
	two, _, err := Terms(" p( (X) ) :- /* x */ q((X) , [ (a) | Y ])\n, \\+ (r) = (-1) % y\n .")
	if err != api.OK || len(one) != 1 || len(two) != 1 || !term.Same(one[0].T, two[0].T) || !slices.Equal(one[0].Names, two[0].Names) {
		t.Error("not alike", one, two)
	}
	both, _, _ := Terms("a(X). b(X). " + "c(X,Y). d.")
	if len(both) != 4 || plain(both[2].T) != "c(X0, X1)" || plain(both[1].T) != "b(X0)" {
		t.Error("a text and another one behind it")
	}
}

func TestAnyTextEnds(t *testing.T) {
	words := []string{"a", "X", "_", "(", ")", "[", "]", "|", ",", ". ", "-", "1", "=", ":-", ";", "->", "\\+", "f(", "'q'", "is", " ", "'", "{"}
	n := uint32(3)
	for range 5000 {
		var b strings.Builder
		for range n % 30 {
			n = n*1664525 + 1013904223
			b.WriteString(words[n>>16%uint32(len(words))])
		}
		n = n*1664525 + 1013904223
		l, at, err := Terms(b.String())
		if err != api.OK && l != nil || at < 0 || at > b.Len() || err == api.OK && at != 0 {
			t.Fatalf("%q: %d %d", b.String(), at, err)
		}
	}
}
