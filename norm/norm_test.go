package norm

import (
	"slices"
	"strconv"
	"strings"
	"testing"

	"resolvent/api"
	"resolvent/program"
	"resolvent/rename"
	"resolvent/term"
	"resolvent/write"
)

func read(t *testing.T, text string) api.Program {
	p, at, err := program.Read(text)
	if err != api.OK {
		t.Fatal(text, at, err)
	}
	return p
}

// plain is a text of a term whose new predicates' names are told as c0, c1, ..
func plain(x api.Term) string {
	rename := func(y api.Term) api.Term {
		if strings.HasPrefix(y.Name, made) {
			y.Name = "c" + y.Name[1:]
		}
		return y
	}
	return write.Text(rename(x))
}

func told(p api.Program) string {
	var l []string
	for _, c := range p.Clauses {
		s := plain(c.Head)
		for i, g := range c.Body {
			s += []string{":-", ","}[min(i, 1)] + plain(g)
		}
		l = append(l, s+"/"+strconv.Itoa(c.Vars))
	}
	return strings.Join(l, " ")
}

func TestNormal(t *testing.T) {
	for text, want := range map[string]string{
		"":                              "",
		"p(X):-q,(X=a;r(Y)),s.":         "p(_0):-q,c0(_0,_1),s/2 c0(_0,_1):-=(_0,a)/2 c0(_0,_1):-r(_1)/2",
		"p:- \\+q.":                     "p:-c0/0 c0:-q,!,fail/0 c0/0",
		"p:-(a->b).":                    "p:-c0/0 c0:-a,!,b/0",
		"p:-(a->b;c).":                  "p:-c0/0 c0:-a,!,b/0 c0:-c/0",
		"p:-(a;b->c).":                  "p:-c0/0 c0:-a/0 c0:-c1/0 c1:-b,!,c/0",
		"p:-((a->b->c);d).":             "p:-c0/0 c0:-a,!,c1/0 c0:-d/0 c1:-b,!,c/0",
		"p(X,Y):-(q(Y);r(X)). s.":       "p(_0,_1):-c0(_1,_0)/2 s/0 c0(_0,_1):-q(_0)/2 c0(_0,_1):-r(_1)/2",
		"p:-(a,b),c. q:-((a,b),!,d).":   "p:-a,b,c/0 q:-a,b,!,d/0",
		"p:-(a;b),(c;d). q:- \\+r.":     "p:-c0,c1/0 q:-c2/0 c0:-a/0 c0:-b/0 c1:-c/0 c1:-d/0 c2:-r,!,fail/0 c2/0",
		"p:-((a;b),c;d).":               "p:-c0/0 c0:-c1,c/0 c0:-d/0 c1:-a/0 c1:-b/0",
		"p:- \\+ \\+q(X).":              "p:-c0(_0)/1 c0(_0):-c1(_0),!,fail/1 c0(_0)/1 c1(_0):-q(_0),!,fail/1 c1(_0)/1",
		"p(X).":                         "p(_0)/1",
		"p:-';'(a),'\\\\+'(a,b),;,-> .": "p:-;(a),\\+(a,b),;,->/0",
		"p:- (a->b;c), !.":              "p:-c0,!/0 c0:-a,!,b/0 c0:-c/0",
	} {
		p, at, err := Normal(read(t, text))
		if at != 0 || err != api.OK || told(p) != want {
			t.Errorf("%s: %s %d %d", text, told(p), at, err)
		}
	}
}

func TestErrors(t *testing.T) {
	vars := func(n int) string {
		var l []string
		for i := range n {
			l = append(l, "[V"+strconv.Itoa(i)+"]")
		}
		return strings.Join(l, "+")
	}
	goals := func(n int) string { return strings.Repeat("a,", n-1) + "a" }
	for i, c := range []struct {
		text string
		at   int
		err  api.Errno
	}{
		{"p:-(q,!;r).", 0, api.ErrCut},
		{"p:-X.", 0, api.ErrForm},
		{"p:-a,3.", 0, api.ErrForm},
		{"a. p:- \\+ ! .", 1, api.ErrCut},
		{"p:-(a->b;(c;d,!)).", 0, api.ErrCut},
		{"p:-(a;!),X.", 0, api.ErrForm},
		{"p:-(X;a). q:-!,Y.", 1, api.ErrForm},
		{"p:-(X;a). q.", 2, api.ErrForm},
		{"p:-(a;(b;3)). q.", 5, api.ErrForm},
		{"p:-(X;a). q:-(!;b).", 1, api.ErrCut},
		{"p:-" + goals(32) + ". q:-" + goals(16) + ",(" + goals(16) + "),a.", 1, api.ErrLong},
		{"p:-" + goals(32) + ",!,(a;!).", 0, api.ErrCut},
		{"p:-q,(a=" + vars(17) + ";b).", 0, api.ErrLong},
		{"p:-(" + goals(33) + ";b).", 1, api.ErrLong},
		{"q. p:-" + strings.Repeat("(a;b),", 21) + strings.Repeat("(a;b),", 10) + "c. r:-" + strings.Repeat("(a;b),", 31) + "c. p:-(a->b;c).", 3, api.ErrLong},
	} {
		p, at, err := Normal(read(t, c.text))
		if err != c.err || at != c.at || p.Clauses != nil || p.Entries != nil {
			t.Error(i, at, err)
		}
	}
	if _, _, err := Normal(read(t, "p:-"+goals(32)+".")); err != api.OK {
		t.Error("MaxBody goals", err)
	}
	if _, _, err := Normal(read(t, "q:-(a="+vars(16)+";b).")); err != api.OK {
		t.Error("MaxArity variables", err)
	}
}

func TestRowsLength(t *testing.T) {
	fact := api.Clause{Head: term.A("a")}
	full := api.Program{Clauses: slices.Repeat([]api.Clause{fact}, api.MaxClauses)}
	if p, _, err := Normal(full); err != api.OK || len(p.Clauses) != api.MaxClauses {
		t.Error("MaxClauses clauses", err)
	}
	full.Clauses[5].Body = []api.Term{term.F("->", term.A("a"), term.A("b"))}
	if _, at, err := Normal(full); err != api.ErrLong || at != 5 {
		t.Error("control puts one more", at, err)
	}
	more := api.Program{Clauses: slices.Repeat([]api.Clause{fact}, api.MaxClauses+1)}
	if _, at, err := Normal(more); err != api.ErrLong || at != 0 {
		t.Error("more than MaxClauses", at, err)
	}
	more.Clauses[0].Head = term.V(0)
	if _, at, err := Normal(more); err != api.ErrForm || at != 0 {
		t.Error("what is wrong with the clause is ahead", at, err)
	}
}

func TestWrongTerms(t *testing.T) {
	a := term.A("a")
	for i, c := range []struct {
		c   api.Clause
		err api.Errno
	}{
		{api.Clause{Head: term.V(0)}, api.ErrForm},
		{api.Clause{Head: term.I(0)}, api.ErrForm},
		{api.Clause{}, api.ErrForm},
		{api.Clause{Head: term.A("\x010")}, api.ErrForm},
		{api.Clause{Head: term.F("p", term.V(-1))}, api.ErrForm},
		{api.Clause{Head: a, Body: []api.Term{a, {}}}, api.ErrForm},
		{api.Clause{Head: a, Body: []api.Term{term.A("\x010")}}, api.ErrForm},
		{api.Clause{Head: a, Body: []api.Term{term.F(";", a, term.F("p", term.V(-1)))}}, api.ErrForm},
		{api.Clause{Head: term.F("p", term.V(api.MaxVars))}, api.ErrLong},
		{api.Clause{Head: a, Body: []api.Term{term.F("p", term.V(1<<63-1))}}, api.ErrLong},
		{api.Clause{Head: a, Body: []api.Term{term.F(";", a, term.F("p", term.V(40)))}}, api.ErrLong},
		{api.Clause{Head: term.F("p", term.V(api.MaxVars-1)), Body: []api.Term{a, a}, Vars: -9}, api.OK},
	} {
		p, at, err := Normal(api.Program{Clauses: []api.Clause{{Head: a}, c.c}})
		if err != c.err || err != api.OK && at != 1 || err == api.OK && p.Clauses[1].Vars != api.MaxVars {
			t.Error(i, at, err)
		}
	}
}

func TestEntriesStay(t *testing.T) {
	in := api.Program{Entries: []api.Entry{{Name: "p", Modes: []uint8{1, 200}}, {Name: "q"}}}
	p, _, err := Normal(in)
	if err != api.OK || len(p.Entries) != 2 || p.Entries[1].Name != "q" || !slices.Equal(p.Entries[0].Modes, []uint8{1, 200}) {
		t.Error("entries", p.Entries)
	}
	p.Entries[0].Modes[0] = 4
	if in.Entries[0].Modes[0] != 1 {
		t.Error("memory is shared")
	}
}

func TestControlAndGoals(t *testing.T) {
	a, b := term.A("a"), term.A("b")
	for _, x := range []api.Term{term.F(";", a, b), term.F("->", a, b), term.F("\\+", a)} {
		if !Control(x) {
			t.Error("is control", x)
		}
	}
	for _, x := range []api.Term{{}, a, term.A(";"), {Kind: api.Atom, Name: ";", Args: []api.Term{a, b}}, term.F(";", a), term.F(";", a, a, a), term.F("->", a), term.F("\\+", a, b), term.F(",", a, b), term.V(0)} {
		if Control(x) {
			t.Error("is no control", x)
		}
	}
	c, v := term.F(";", a, term.F(",", a, b)), term.V(3)
	got := Goals(term.F(",", term.F(",", a, c), term.F(",", v, term.F(",", b))))
	if !slices.EqualFunc(got, []api.Term{a, c, v, term.F(",", b)}, term.Same) {
		t.Error("goals", got)
	}
	got[1].Args[0] = b
	if c.Args[0].Name != "a" || len(Goals(a)) != 1 {
		t.Error("memory is shared")
	}
}

// goals counts a body's goals, with those of its control, by their texts.
func goals(l []api.Term, count map[string]int) {
	for g := range each(l) {
		if Control(g) {
			goals(g.Args, count)
		} else {
			count[write.Text(rename.Canon(g)[0])]++
		}
	}
}

func TestWhatFollows(t *testing.T) {
	text := "p(X):-q(X),(a(X),b;c(Y)->d(Y);e),\\+ (f,\\+g(X,Y)). q(1). r:-((a(Z);b);c(Z)),p(Z)."
	in := read(t, text)
	was := told(in)
	p, _, err := Normal(in)
	if err != api.OK || told(in) != was {
		t.Fatal("what is handed in was changed", err)
	}
	for i, c := range in.Clauses {
		if !term.Same(c.Head, p.Clauses[i].Head) {
			t.Error("clauses do not stay at their places")
		}
		var l []api.Term
		for _, b := range c.Body {
			l = append(l, Goals(b)...)
		}
		if len(l) != len(p.Clauses[i].Body) {
			t.Error("not as many goals", i)
		}
	}
	before, after := map[string]int{}, map[string]int{}
	for _, c := range in.Clauses {
		goals(c.Body, before)
	}
	for _, c := range p.Clauses {
		for _, g := range c.Body {
			if Control(g) || is(g, ",", 2) {
				t.Error("control is left", g)
			}
			if s := write.Text(rename.Canon(g)[0]); s != "" && s != "!" && s != "fail" {
				after[s]++
			}
		}
	}
	for s, n := range before {
		if after[s] != n {
			t.Error("a goal is not as often there", s, n, after[s])
		}
	}
	p.Clauses[0].Body[0].Args[0] = term.I(9)
	if told(in) != was {
		t.Error("memory is shared")
	}
}
