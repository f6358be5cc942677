package check

import (
	"slices"
	"strings"
	"testing"

	"resolvent/api"
	"resolvent/norm"
	"resolvent/program"
	"resolvent/term"
)

const builtins = "true/0 fail/0 =/2 \\=/2 ==/2 \\==/2 @</2 @>/2 @=</2 @>=/2 is/2 =:=/2 =\\=/2 </2 >/2 =</2 >=/2 var/1 nonvar/1 atom/1 integer/1 atomic/1 compound/1"

// preds are predicates of texts such as f/2.
func preds(text string) []api.Pred {
	var l []api.Pred
	for _, s := range strings.Fields(text) {
		i := strings.LastIndex(s, "/")
		l = append(l, api.Pred{Name: s[:i], Arity: int(s[i+1] - '0')})
	}
	return l
}

func TestBuiltinAndReserved(t *testing.T) {
	all := preds(builtins)
	if len(all) != 23 {
		t.Fatal(len(all))
	}
	other := preds("!/0 ,/2 ;/2 ->/2 \\+/1 :-/2 :-/1")
	for _, p := range all {
		if !Builtin(p) || !Reserved(p) {
			t.Error("builtin", p)
		}
		for _, by := range []int{-1, 1} {
			q := api.Pred{Name: p.Name, Arity: p.Arity + by}
			if Builtin(q) || Reserved(q) {
				t.Error("no builtin", q)
			}
		}
	}
	for _, p := range other {
		if Builtin(p) || !Reserved(p) {
			t.Error("reserved", p)
		}
	}
	for _, p := range preds("p/0 /0 ,/1 ;/3 \\+/2 :-/3 !/1 =../2 ->/1 call/1") {
		if Builtin(p) || Reserved(p) {
			t.Error("neither", p)
		}
	}
}

func TestExamples(t *testing.T) {
	for _, c := range []struct {
		text string
		at   int
		err  api.Errno
	}{
		{"p:-q. q.", 0, api.OK},
		{"p:-q.", 0, api.ErrUndef},
		{"q. true. p,q.", 1, api.ErrBuiltin},
		{"p. :-entry(p(any)).", 1, api.ErrUndef},
		{"", 0, api.OK},
		{"p:-!,true,X=1,p(X),q(X). p(1). q(_):-(p;p(2)). :-entry(p(any)).", 0, api.OK},
		{"p. q:-p,r. s:-t.", 1, api.ErrUndef},
		{"p:-q(1). q. q(1,2).", 0, api.ErrUndef},
		{"p. !.", 1, api.ErrBuiltin},
		{"p. !(a):-p. a;b. ", 2, api.ErrBuiltin},
		{"p. a->b.", 1, api.ErrBuiltin},
		{"\\+a.", 0, api.ErrBuiltin},
		{"X is 3.", 0, api.ErrBuiltin},
		{"p. q. :-entry(q). :-entry(r). :-entry(s).", 3, api.ErrUndef},
		{"p:-is(1,2,3). q:-is(1).", 0, api.ErrUndef},
		{"p:-is(1,2). q:- :-(1,2).", 1, api.ErrUndef},
	} {
		p, _, err := program.Read(c.text)
		if err != api.OK {
			t.Fatal(c.text, err)
		}
		p, _, err = norm.Normal(p)
		if err != api.OK {
			t.Fatal(c.text, err)
		}
		if at, err := Check(p); at != c.at || err != c.err {
			t.Error(c.text, at, err)
		}
	}
}

// facts are that many clauses of a.
func facts(n int) []api.Clause { return slices.Repeat([]api.Clause{{Head: term.A("a")}}, n) }

func TestClauses(t *testing.T) {
	a := term.A("a")
	many := func(n int, x api.Term) []api.Term { return slices.Repeat([]api.Term{x}, n) }
	deep := a
	for range api.MaxDepth - 1 {
		deep = term.F("s", deep)
	}
	long := strings.Repeat("n", api.MaxName)
	for i, c := range []struct {
		c   api.Clause
		err api.Errno
	}{
		{api.Clause{Head: a, Body: many(api.MaxBody, a), Vars: api.MaxVars}, api.OK},
		{api.Clause{Head: term.F("p", many(api.MaxArity, term.V(31))...), Vars: 32}, api.OK},
		{api.Clause{Head: term.F("p", deep)}, api.OK},
		{api.Clause{Head: term.A("\x01" + long)}, api.OK},
		{api.Clause{Head: term.A(long + "n")}, api.ErrForm},
		{api.Clause{Head: term.A("\x01\x01")}, api.ErrForm},
		{api.Clause{Head: term.A("a\x01")}, api.ErrForm},
		{api.Clause{Head: term.F("p", term.A("\x01"))}, api.ErrForm},
		{api.Clause{Head: term.F("p", term.F("s", deep))}, api.ErrForm},
		{api.Clause{}, api.ErrForm},
		{api.Clause{Head: term.V(0), Vars: 1}, api.ErrForm},
		{api.Clause{Head: term.I(0)}, api.ErrForm},
		{api.Clause{Head: api.Term{Kind: api.Atom, Name: "a", N: 1}}, api.ErrForm},
		{api.Clause{Head: api.Term{Kind: api.Atom, Name: "a", Args: many(1, a)}}, api.ErrForm},
		{api.Clause{Head: api.Term{Kind: api.Struct, Name: "a"}}, api.ErrForm},
		{api.Clause{Head: term.F("p", term.V(-1)), Vars: 1}, api.ErrForm},
		{api.Clause{Head: term.F("p", api.Term{})}, api.ErrForm},
		{api.Clause{Head: a, Body: many(1, term.V(0)), Vars: 1}, api.ErrForm},
		{api.Clause{Head: a, Body: many(1, term.I(0))}, api.ErrForm},
		{api.Clause{Head: a, Body: many(1, term.F(",", a, a))}, api.ErrForm},
		{api.Clause{Head: a, Body: many(1, term.F(";", a, a))}, api.ErrForm},
		{api.Clause{Head: a, Body: many(1, term.F("->", a, a))}, api.ErrForm},
		{api.Clause{Head: a, Body: many(1, term.F("\\+", a))}, api.ErrForm},
		{api.Clause{Head: a, Body: many(1, api.Term{Kind: api.Atom, Name: "a", N: 4})}, api.ErrForm},
		{api.Clause{Head: term.A("true"), Body: many(1, term.V(0))}, api.ErrForm},
		{api.Clause{Head: term.A("true"), Vars: 99, Body: many(99, term.A("none"))}, api.ErrBuiltin},
		{api.Clause{Head: a, Body: many(api.MaxBody+1, term.A("none"))}, api.ErrLong},
		{api.Clause{Head: a, Vars: -1}, api.ErrLong},
		{api.Clause{Head: a, Vars: api.MaxVars + 1}, api.ErrLong},
		{api.Clause{Head: term.F("p", term.V(1)), Vars: 1}, api.ErrLong},
		{api.Clause{Head: a, Body: many(1, term.F("=", a, term.F("f", term.V(0))))}, api.ErrLong},
		{api.Clause{Head: term.F("p", many(api.MaxArity+1, a)...)}, api.ErrLong},
		{api.Clause{Head: a, Body: many(1, term.F("p", many(api.MaxArity+1, a)...))}, api.ErrLong},
		{api.Clause{Head: a, Body: []api.Term{a, term.A("!"), term.A("none")}}, api.ErrUndef},
		{api.Clause{Head: a, Body: many(1, term.F("!", a))}, api.ErrUndef},
	} {
		at, err := Check(api.Program{Clauses: append(facts(3), c.c)})
		if err != c.err || err != api.OK && at != 3 || err == api.OK && at != 0 {
			t.Error(i, at, err)
		}
	}
}

func TestNumbersAndEntries(t *testing.T) {
	entries := func(n int, e api.Entry) []api.Entry { return slices.Repeat([]api.Entry{e}, n) }
	a, none := api.Entry{Name: "a"}, api.Entry{Name: "none"}
	q := api.Clause{Head: term.F("q", term.V(0), term.I(1)), Vars: 1}
	bad := api.Clause{}
	for i, c := range []struct {
		p   api.Program
		at  int
		err api.Errno
	}{
		{api.Program{}, 0, api.OK},
		{api.Program{Clauses: facts(api.MaxClauses), Entries: entries(api.MaxClauses, a)}, 0, api.OK},
		{api.Program{Clauses: append([]api.Clause{bad}, facts(api.MaxClauses)...)}, 0, api.ErrLong},
		{api.Program{Clauses: []api.Clause{q, bad}, Entries: entries(api.MaxClauses+1, a)}, 0, api.ErrLong},
		{api.Program{Clauses: []api.Clause{q, bad}, Entries: entries(1, none)}, 1, api.ErrForm},
		{api.Program{Clauses: facts(2), Entries: append(entries(3, a), none)}, 5, api.ErrUndef},
		{api.Program{Entries: entries(1, a)}, 0, api.ErrUndef},
		{api.Program{Clauses: []api.Clause{q}, Entries: []api.Entry{{Name: "q", Modes: []uint8{4, 0}}, {Name: "q", Modes: []uint8{4, 5}}}}, 2, api.ErrArg},
		{api.Program{Clauses: []api.Clause{q}, Entries: []api.Entry{{Name: "q", Modes: []uint8{4}}}}, 1, api.ErrUndef},
		{api.Program{Clauses: []api.Clause{q}, Entries: []api.Entry{{Name: "q", Modes: []uint8{9, 9, 9}}}}, 1, api.ErrUndef},
		{api.Program{Clauses: facts(1), Entries: []api.Entry{{Name: "true"}}}, 1, api.ErrUndef},
	} {
		if at, err := Check(c.p); at != c.at || err != c.err {
			t.Error(i, at, err)
		}
	}
}

func TestWhatIsTurnedIsWellFormed(t *testing.T) {
	words := []string{"p(X)", "q", "(a;b)", "\\+q", "X=Y", "(q->p(Y);!,q)", "(a->b)", "!", "\\+ (a;q,p(Z))", "true"}
	n, good := uint32(2), 0
	for range 1000 {
		var b strings.Builder
		b.WriteString("a. b. p(_). q.")
		for range 1 + n>>9%4 {
			b.WriteString(" h(X,Y):-true")
			for range n >> 12 % 5 {
				n = n*1664525 + 1013904223
				b.WriteString("," + words[n>>16%uint32(len(words))])
			}
			b.WriteString(".")
		}
		n = n*1664525 + 1013904223
		p, _, err := program.Read(b.String())
		if err != api.OK {
			t.Fatal(b.String(), err)
		}
		if p, _, err = norm.Normal(p); err != api.OK {
			continue
		}
		good++
		if at, err := Check(p); err != api.OK {
			t.Fatal(b.String(), at, err)
		}
	}
	if good < 100 {
		t.Error("too few", good)
	}
}

func TestAnyProgramEnds(t *testing.T) {
	deep := term.A("a")
	for range 1 << 16 {
		deep = api.Term{Kind: api.Struct, Name: "s", Args: []api.Term{deep}}
	}
	for i, c := range []api.Clause{{Head: deep}, {Head: term.A("a"), Body: []api.Term{deep}}, {Head: api.Term{Kind: 200}, Vars: 1 << 62}} {
		if at, err := Check(api.Program{Clauses: []api.Clause{c}, Entries: make([]api.Entry, 3)}); at != 0 || err != api.ErrForm {
			t.Error(i, at, err)
		}
	}
}
