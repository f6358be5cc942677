package write

import (
	"strings"
	"testing"

	"resolvent/api"
	"resolvent/parse"
	"resolvent/rename"
	"resolvent/term"
)

func TestName(t *testing.T) {
	long := strings.Repeat("a", 3*api.MaxName)
	for name, want := range map[string]string{
		"a": "a", "aB_9": "aB_9", "zAZaz09": "zAZaz09", long: long, "+": "+", "=..": "=..", "..": "..", "!": "!", ";": ";", "[]": "[]",
		strings.Repeat("+", 40): strings.Repeat("+", 40), ".": "'.'", "": "''", "/*": "'/*'", "/*+": "'/*+'", "*/": "*/", "//*": "//*",
		"A": "'A'", "_a": "'_a'", "1": "'1'", "a b": "'a b'", "a+": "'a+'", "+a": "'+a'", ",": "','", "|": "'|'", "!!": "'!!'", "[": "'['", "{}": "'{}'",
		"it's": "'it''s'", "\\": "\\", "a\\": "'a\\\\'", "\n": "'\\n'", "a\tb": "'a\\tb'", "'": "''''", ",'\\\n\t": "',''\\\\\\n\\t'", "%": "'%'", "é": "'é'", "\x00": "'\x00'",
	} {
		if got := Name(name); got != want {
			t.Errorf("%q: %s", name, got)
		}
	}
}

func TestText(t *testing.T) {
	list := func(rest api.Term, l ...api.Term) api.Term {
		for i := len(l) - 1; i >= 0; i-- {
			rest = term.F(".", l[i], rest)
		}
		return rest
	}
	a, b, none := term.A("a"), term.A("b"), term.A("[]")
	for _, c := range []struct {
		t    api.Term
		want string
	}{
		{term.F("f", term.V(1), term.A("it's"), term.I(-3)), "f(_1,'it''s',-3)"},
		{list(term.V(0), a, b), "[a,b|_0]"},
		{term.F("+", term.I(1), term.F("-", term.I(2))), "+(1,-(2))"},
		{none, "[]"},
		{term.F("[]", a), "'[]'(a)"},
		{list(none, a), "[a]"},
		{list(b, a), "[a|b]"},
		{list(none, list(none, a), list(term.I(1), b, a)), "[[a],[b,a|1]]"},
		{list(term.F("[]", a), a), "[a|'[]'(a)]"},
		{list(term.F(".", a), a), "[a|'.'(a)]"},
		{term.F(".", a), "'.'(a)"},
		{term.F(".", a, b, a), "'.'(a,b,a)"},
		{term.A("."), "'.'"},
		{term.V(0), "_0"}, {term.V(1<<63 - 1), "_9223372036854775807"},
		{term.I(-1 << 63), "-9223372036854775808"}, {term.I(0), "0"},
		{term.F(",", a, b), "','(a,b)"},
		{term.F("a b", term.A("")), "'a b'('')"},
		{term.F("!", a), "!(a)"},
		{api.Term{}, ""}, {term.V(-1), ""}, {term.F("f", a, term.V(-1)), ""}, {api.Term{Kind: api.Struct, Name: "f"}, ""}, {term.A("\x01"), ""},
	} {
		if got := Text(c.t); got != c.want {
			t.Errorf("%v: %s", c.t, got)
		}
	}
}

func TestClause(t *testing.T) {
	p, q := term.A("p"), term.A("q")
	for want, c := range map[string]api.Clause{
		"p :- -(_0),q .\n":           {Head: p, Body: []api.Term{term.F("-", term.V(0)), q}},
		"p .\n":                      {Head: p, Body: []api.Term{}},
		"f(_3) .\n":                  {Head: term.F("f", term.V(3)), Vars: 4},
		"p :- ','(p,q),!,;(p,q) .\n": {Head: p, Body: []api.Term{term.F(",", p, q), term.A("!"), term.F(";", p, q)}},
		" :- q, .\n":                 {Body: []api.Term{q, {}}},
	} {
		if got := Clause(c); got != want {
			t.Errorf("%q: %q", want, got)
		}
	}
}

// next is a small generator of numbers: the tests are the same each time.
type next uint32

func (n *next) below(m int) int {
	*n = *n*1664525 + 1013904223
	return int(*n>>16) % m
}

func (n *next) term(depth int) api.Term {
	names := []string{"a", ".", "[]", "-", "+", "it's", "", "A", "\\", "a\n", "=", ":-", ",", "|", "!", ";", "is", "\\+", "/*", "\t", "{}", "%"}
	switch k := n.below(8); {
	case k == 0:
		return term.V(int64(n.below(5)))
	case k == 1:
		return term.I(int64(n.below(7) - 3))
	case k < 4 || depth == 0:
		return term.A(names[n.below(len(names))])
	case k == 4:
		return term.F(".", n.term(depth-1), n.term(depth-1))
	}
	l := make([]api.Term, 1+n.below(3))
	for i := range l {
		l[i] = n.term(depth - 1)
	}
	return term.F(names[n.below(len(names))], l...)
}

func TestWhatIsWrittenIsRead(t *testing.T) {
	n := next(5)
	for range 3000 {
		x := n.term(4)
		l, at, err := parse.Terms(Text(x) + " .")
		if err != api.OK || len(l) != 1 || !rename.Variants([]api.Term{l[0].T}, []api.Term{x}) {
			t.Fatal(Text(x), l, at, err)
		}
	}
}

func TestAnyTermEnds(t *testing.T) {
	deep := term.A("a")
	for range 1 << 16 {
		deep = api.Term{Kind: api.Struct, Name: ".", Args: []api.Term{deep}}
	}
	for _, x := range []api.Term{deep, {Kind: 9}, {Kind: api.Struct, Name: ".", Args: make([]api.Term, 2)}} {
		if Text(x) != "" || Clause(api.Clause{Head: x, Body: []api.Term{x}}) != " :-  .\n" {
			t.Error("a term that is no good")
		}
	}
}
