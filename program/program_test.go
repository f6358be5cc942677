package program

import (
	"slices"
	"strconv"
	"strings"
	"testing"

	"resolvent/api"
	"resolvent/rename"
	"resolvent/term"
)

func TestExamples(t *testing.T) {
	p, at, err := Read("p(X):-q(X),r. p(a). :-entry(p(ground)).")
	if at != 0 || err != api.OK || len(p.Clauses) != 2 || len(p.Entries) != 1 {
		t.Fatal("not read", at, err)
	}
	if c := p.Clauses[0]; !term.Same(c.Head, term.F("p", term.V(0))) || len(c.Body) != 1 || !term.Same(c.Body[0], term.F(",", term.F("q", term.V(0)), term.A("r"))) || c.Vars != 1 {
		t.Error("the first clause", c)
	}
	if c := p.Clauses[1]; !term.Same(c.Head, term.F("p", term.A("a"))) || len(c.Body) != 0 || c.Vars != 0 {
		t.Error("the second clause", c)
	}
	if e := p.Entries[0]; e.Name != "p" || !slices.Equal(e.Modes, []uint8{api.ModeGround}) {
		t.Error("the entry", e)
	}
	p, _, err = Read("(-):-a.")
	if err != api.OK || !term.Same(p.Clauses[0].Head, term.A("-")) || Text(p) != "(-) :- a .\n" {
		t.Error("a head that is a prefix operator's", Text(p))
	}
	for _, text := range []string{":-foo.", "X:-a.", "3."} {
		if p, at, err := Read(text); err != api.ErrForm || at != 0 || p.Clauses != nil || p.Entries != nil {
			t.Error(text, at, err)
		}
	}
}

func TestRead(t *testing.T) {
	p, _, err := Read(":-entry(q). f(_,_,X). ':-'(a,b,c). 'entry'(any). a:-X. ;. :-entry(f(any,ground,free)). :-entry(g(integer,atom)).")
	if err != api.OK || len(p.Clauses) != 5 || len(p.Entries) != 3 {
		t.Fatal(err, p)
	}
	if p.Clauses[0].Vars != 3 || p.Clauses[3].Vars != 1 || p.Clauses[3].Body[0].Kind != api.Var || p.Clauses[1].Head.Name != ":-" || p.Clauses[4].Head.Name != ";" {
		t.Error("clauses", p.Clauses)
	}
	if e := p.Entries; len(e[0].Modes) != 0 || !slices.Equal(e[1].Modes, []uint8{api.ModeAny, api.ModeGround, api.ModeFree}) || !slices.Equal(e[2].Modes, []uint8{api.ModeInt, api.ModeAtom}) {
		t.Error("entries", e)
	}
	if p, at, err := Read(""); err != api.OK || at != 0 || len(p.Clauses)+len(p.Entries) != 0 {
		t.Error("the empty text")
	}
}

func TestErrors(t *testing.T) {
	many := func(n int, text string) string { return strings.Repeat(text, n) }
	for i, c := range []struct {
		text string
		at   int
		err  api.Errno
	}{
		{"a. X. 3.", 1, api.ErrForm},
		{"a. b. (1:-a).", 2, api.ErrForm},
		{"a. :-entry(X).", 1, api.ErrForm},
		{":-entry(3).", 0, api.ErrForm},
		{":-entry(p(X)).", 0, api.ErrForm},
		{":-entry(p(foo)).", 0, api.ErrForm},
		{":-entry(p(any(a))).", 0, api.ErrForm},
		{":-entry(p,q).", 0, api.ErrForm},
		{":-entry.", 0, api.ErrForm},
		{":- (:-entry(p)).", 0, api.ErrForm},
		{"a. b", 4, api.ErrParse},
		{"3. b", 4, api.ErrParse},
		{"3. {", 3, api.ErrLex},
		{many(api.MaxClauses, "a. ") + "b.", api.MaxClauses, api.ErrLong},
		{many(api.MaxClauses, "a. ") + "3.", api.MaxClauses, api.ErrForm},
		{many(api.MaxClauses, ":-entry(a). ") + "a. :-entry(a).", api.MaxClauses + 1, api.ErrLong},
		{"3. " + many(api.MaxClauses+1, "a. "), 0, api.ErrForm},
	} {
		if p, at, err := Read(c.text); err != c.err || at != c.at || p.Clauses != nil || p.Entries != nil {
			t.Error(i, at, err)
		}
	}
	if p, _, err := Read(many(api.MaxClauses, "a. :-entry(a). ")); err != api.OK || len(p.Clauses) != api.MaxClauses || len(p.Entries) != api.MaxClauses {
		t.Error("MaxClauses clauses, and as many entries")
	}
}

func TestText(t *testing.T) {
	v := term.V(0)
	p := api.Program{
		Clauses: []api.Clause{
			{Head: term.F("p", v), Body: []api.Term{term.F(",", term.A("a"), v), term.A("left out")}},
			{Head: term.A("-")},
			{Head: term.A("\\+"), Body: []api.Term{term.A("-")}},
			{Head: term.F("-", v), Body: []api.Term{v}},
			{Head: term.A("="), Body: []api.Term{term.A("a")}},
		},
		Entries: []api.Entry{{Name: "p", Modes: []uint8{0, 1, 2, 3, 4, 5, 255}}, {Name: "a b"}},
	}
	want := "p(_0) :- ','(a,_0) .\n- .\n(\\+) :- - .\n-(_0) :- _0 .\n= :- a .\n:-entry(p(any,ground,free,integer,atom,any,any)) .\n:-entry('a b') .\n"
	if got := Text(p); got != want {
		t.Errorf("%q", got)
	}
	if Text(api.Program{}) != "" {
		t.Error("of nothing")
	}
}

// alike tells whether two programs are, but for their variables' numbers.
func alike(p, q api.Program) bool {
	return slices.EqualFunc(p.Clauses, q.Clauses, func(c, d api.Clause) bool {
		return c.Vars == d.Vars && rename.Variants(append([]api.Term{c.Head}, c.Body...), append([]api.Term{d.Head}, d.Body...))
	}) && slices.EqualFunc(p.Entries, q.Entries, func(e, f api.Entry) bool {
		return e.Name == f.Name && slices.Equal(e.Modes, f.Modes)
	})
}

func TestReadOfText(t *testing.T) {
	words := []string{"a", "p(X,Y)", "-", "\\+", ":-", "=", "[X|Y]", "(a,b;c->d)", "'it''s'(X)", "- 1", "-1", "f(-3,_,_)", "X", ";", "'\\n'", "[]", "'[]'(a)", "!", "(a:-b)"}
	n, read := uint32(9), 0
	for range 2000 {
		var b strings.Builder
		for i := range n >> 8 % 6 {
			n = n*1664525 + 1013904223
			b.WriteString("(" + words[n>>16%uint32(len(words))] + ")")
			if n = n*1664525 + 1013904223; n>>16%3 > 0 {
				b.WriteString(":-(" + words[n>>18%uint32(len(words))] + ")")
			}
			b.WriteString(" . :-entry(e" + strconv.Itoa(int(i)) + "(any,free)) .\n")
		}
		n = n*1664525 + 1013904223
		p, _, err := Read(b.String())
		if err != api.OK {
			continue
		}
		read++
		q, at, err := Read(Text(p))
		if err != api.OK || !alike(p, q) || Text(q) != Text(p) {
			t.Fatalf("%s\n%s %d %d", b.String(), Text(p), at, err)
		}
	}
	if read < 200 {
		t.Error("too few are read", read)
	}
}

func TestAnyProgramEnds(t *testing.T) {
	p := api.Program{Clauses: []api.Clause{{}, {Body: make([]api.Term, 1)}, {Head: term.V(-1), Vars: -4}}, Entries: []api.Entry{{}, {Name: "\x00", Modes: make([]uint8, 100)}}}
	if Text(p) != " .\n :-  .\n .\n:-entry('') .\n:-entry() .\n" {
		t.Errorf("%q", Text(p))
	}
}
