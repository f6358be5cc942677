package pipe

import (
	"reflect"
	"strings"
	"testing"

	"resolvent/analyse"
	"resolvent/api"
	"resolvent/desc"
	"resolvent/emu"
	"resolvent/norm"
	"resolvent/parse"
	"resolvent/program"
	"resolvent/sample"
	"resolvent/sld"
	"resolvent/term"
)

var roomy = emu.Limits{Fuel: 50000, Heap: 1 << 16, Trail: 1 << 16, Choices: 1 << 16, Frames: 1 << 16}

func load(t *testing.T, text string) *System {
	s, at, err := Load(text, 0)
	if err != api.OK || at != 0 {
		t.Fatal(text, at, err)
	}
	return s
}

func TestAsk(t *testing.T) {
	for _, c := range [][3]string{
		{"p(a). p(X):-X=b. :-entry(p(any)).", "p(X).", "yes a\nyes b\nno\n"},
		{"p(X):-X is 1//0. :-entry(p(any)).", "p(X).", "error 23\n"},
		{"p. :-entry(p).", "p.", "yes \nno\n"},
		{"p(f(X),'a b',[X,Y|Y],-3). :-entry(p(any,any,any,any)).", "p(A,B,C,D).", "yes f(_0),'a b',[_0,_1|_1],-3\nno\n"},
		{sample.App + ":-entry(app(ground,ground,free)).", "app([1],[2],X).", "yes [1,2]\nno\n"},
		{sample.App + ":-entry(app(any,any,any)).", " app(X, Y, [1,2]) . % all", "yes [],[1,2]\nyes [1],[2]\nyes [1,2],[]\nno\n"},
		{"p(X):-(X=1;\\+ X=2). :-entry(p(integer)).", "p(1).", "yes \nyes \nno\n"},
		{"p(X):-p(X). :-entry(p(any)).", "p(a).", "fuel\n"},
	} {
		s := load(t, c[0])
		for _, way := range []int{Spec, Plain, Special} {
			if got, at, err := s.Ask(way, c[1], roomy); got != c[2] || at != 0 || err != api.OK {
				t.Errorf("%s by %d: %q %d %d", c[1], way, got, at, err)
			}
		}
	}
	s := load(t, "p(a). p(b). :-entry(p(free)).")
	for _, way := range []int{Plain, Special} {
		if got, _, err := s.Ask(way, "p(X).", emu.Limits{Fuel: 100, Heap: 9, Choices: 1}); got != "full\n" || err != api.OK {
			t.Error("no more room", got, err)
		}
	}
	if got, _, err := s.Ask(Spec, "p(X).", emu.Limits{Fuel: 3, Heap: -1}); got != "yes a\nfuel\n" || err != api.OK {
		t.Error("the specification has fuel alone", got, err)
	}
}

func TestLoadErrors(t *testing.T) {
	for i, c := range []struct {
		text  string
		entry int
		at    int
		err   api.Errno
	}{
		{"p(", 0, 2, api.ErrParse}, {"p. {", 0, 3, api.ErrLex}, {strings.Repeat(" ", 9000), 0, 0, api.ErrLong}, {"p. :-foo.", 0, 1, api.ErrForm},
		{"q. p:-X. ", 0, 1, api.ErrForm}, {"q. q. p:-(q;!).", 0, 2, api.ErrCut}, {"p:-(q;r). q.", 0, 3, api.ErrUndef}, {"q. true. p,q.", 5, 1, api.ErrBuiltin}, {"p. :-entry(p(any)).", 0, 1, api.ErrUndef},
		{"p.", 0, 0, api.ErrArg}, {"p. :-entry(p).", 1, 1, api.ErrArg}, {"p. :-entry(p).", -1, -1, api.ErrArg}, {"p:-q. :-entry(p).", 7, 0, api.ErrUndef},
	} {
		if s, at, err := Load(c.text, c.entry); s != nil || at != c.at || err != c.err {
			t.Error(i, at, err)
		}
	}
	wide := "f(" + strings.TrimSuffix(strings.Repeat("g(a),", 14), ",") + ")"
	text := "p(" + strings.TrimSuffix(strings.Repeat(wide+",", 16), ",") + "). q. :-entry(q)."
	if s, at, err := Load(text, 0); s != nil || at != 0 || err != api.ErrLong {
		t.Error("compile's", at, err)
	}
}

func TestAskErrors(t *testing.T) {
	s := load(t, "p(a,_). q. :-entry(q). :-entry(p(ground,free)).")
	two, _, _ := Load("p(a,_). q. :-entry(q). :-entry(p(ground,free)).", 1)
	var none *System
	for i, c := range []struct {
		s        *System
		way      int
		question string
		l        emu.Limits
		at       int
		err      api.Errno
	}{
		{none, 9, "p(", roomy, 0, api.ErrNil}, {s, 9, "p(", roomy, 2, api.ErrParse}, {s, 0, "q", roomy, 1, api.ErrParse}, {s, 0, "q {", roomy, 2, api.ErrLex},
		{s, 9, "", roomy, 0, api.ErrForm}, {s, 9, "q. q.", roomy, 0, api.ErrForm}, {s, 3, "X.", roomy, 0, api.ErrArg}, {s, -1, "q.", roomy, 0, api.ErrArg},
		{s, Spec, "X.", roomy, 0, api.ErrForm}, {s, Plain, "3.", roomy, 0, api.ErrForm}, {s, Special, "X.", roomy, 0, api.ErrForm},
		{s, Spec, "r.", roomy, 0, api.ErrUndef}, {s, Plain, "r.", roomy, 0, api.ErrUndef}, {s, Special, "r.", roomy, 0, api.ErrPattern}, {s, Special, "p(a,X).", roomy, 0, api.ErrPattern}, {two, Special, "p(X,a).", roomy, 0, api.ErrPattern}, {two, Special, "p(a,X).", roomy, 0, api.OK},
		{s, Spec, "q.", emu.Limits{Fuel: -1}, 0, api.ErrArg}, {s, Spec, "q.", emu.Limits{Fuel: 100001}, 0, api.ErrArg}, {s, Plain, "q.", emu.Limits{Heap: -1}, 0, api.ErrArg}, {s, Special, "q.", emu.Limits{Trail: -1}, 0, api.ErrArg},
	} {
		if got, at, err := c.s.Ask(c.way, c.question, c.l); err != c.err || at != c.at || (got != "") != (err == api.OK) {
			t.Error(i, got, at, err)
		}
	}
}

func TestWhatItHas(t *testing.T) {
	text := "p(X):-(X=f(a);q). q. :-entry(q). :-entry(p(any))."
	s, _, err := Load(text, 1)
	if err != api.OK {
		t.Fatal(err)
	}
	p, _, _ := program.Read(text)
	p, _, _ = norm.Normal(p)
	if !reflect.DeepEqual(s.Program(), p) || len(s.Program().Clauses) != 4 || !reflect.DeepEqual(s.Entry(), p.Entries[1]) {
		t.Error("Program, Entry", s.Program(), s.Entry())
	}
	table, _ := analyse.Analyse(p, p.Entries[1])
	q := api.Pred{Name: "p", Arity: 1}
	if s.Table() == nil || s.Table().Steps() != table.Steps() || s.Table().Success(q).Text() != table.Success(q).Text() {
		t.Error("Table")
	}
	got := s.Program()
	got.Clauses[2].Body[0].Args[1].Args[0] = term.I(9)
	got.Clauses[0].Head = term.A("z")
	got.Entries[1].Modes[0] = 4
	s.Entry().Modes[0] = 3
	if !reflect.DeepEqual(s.Program(), p) || !reflect.DeepEqual(s.Entry(), p.Entries[1]) {
		t.Error("memory is shared")
	}
	var none *System
	if p := none.Program(); p.Clauses != nil || p.Entries != nil || none.Table() != nil || none.Entry().Name != "" || none.Entry().Modes != nil {
		t.Error("of nil")
	}
}

// agree tells whether of two ways' lines the one's, without the last one, are a beginning of the other's.
func agree(a, b string) bool {
	l, m := strings.SplitAfter(a, "\n"), strings.SplitAfter(b, "\n")
	n := min(len(l), len(m)) - 2
	return strings.Join(l[:n], "") == strings.Join(m[:n], "")
}

func TestAllWaysAgree(t *testing.T) {
	n := sample.Numbers(5)
	asked, events := 0, 0
	for range 200 {
		text := n.Program()
		s, at, err := Load(text, 0)
		if err != api.OK || !s.Table().Stable() {
			t.Fatal(text, at, err)
		}
		for range 10 {
			question := n.Query() + "."
			l := emu.Limits{Fuel: 10 + n.Below(500), Heap: 20 + n.Below(3000), Trail: n.Below(500), Choices: n.Below(200), Frames: n.Below(200)}
			spec, _, err := s.Ask(Spec, question, l)
			plain, _, err2 := s.Ask(Plain, question, l)
			if err != api.OK || err2 != api.OK || !agree(spec, plain) {
				t.Fatal(text, question, spec, plain)
			}
			special, _, err := s.Ask(Special, question, l)
			q, _, _ := parse.Terms(question)
			within := desc.Entry(s.Entry().Modes).In(q[0].T.Args)
			if within != (err == api.OK) || !within && err != api.ErrPattern {
				t.Fatal("within", text, question, err)
			}
			if !within {
				continue
			}
			asked++
			if !agree(plain, special) || !agree(spec, special) {
				t.Fatal(text, question, plain, special)
			}
			events += isSound(t, s, q[0].T)
		}
	}
	if asked < 200 || events < 4000 {
		t.Error("too few", asked, events)
	}
}

// isSound tells how many events of a query's run the table describes: all.
func isSound(t *testing.T, s *System, q api.Term) int {
	l, err := sld.Run(s.Program(), q, 60)
	if err != api.OK {
		t.Fatal(err)
	}
	for _, e := range l {
		is := true
		switch e.Kind {
		case api.EvCall:
			is = s.Table().Call(e.P).In(e.Terms)
		case api.EvExit:
			is = s.Table().Success(e.P).In(e.Terms)
		case api.EvPoint:
			is = s.Table().Point(e.Clause, e.Goal).In(e.Terms)
		}
		if !is {
			t.Fatal("not described", program.Text(s.Program()), e)
		}
	}
	return len(l)
}

func TestAnyTextsEnd(t *testing.T) {
	words := []string{"p", "q(X)", "(", ")", "[", "]", "|", ",", ". ", " :- ", ":-entry(p).", "1", "=", ";", "->", "\\+ ", "!", "f(", "'q'", " is ", "X", "'", "{", "%\n", "\x00", "true", "p. ", "q(a). "}
	n := sample.Numbers(6)
	loaded := 0
	for range 4000 {
		var b strings.Builder
		for range n.Below(25) {
			b.WriteString(words[n.Below(len(words))])
			if n.Below(2) == 0 {
				b.WriteString([]string{" p. ", " q(X):-p,X=f(Y). ", " p:- \\+ q(a). "}[n.Below(3)])
			}
		}
		if n.Below(4) == 0 {
			b.Reset()
			b.WriteString("p:-(q(X);X=1). " + words[n.Below(len(words))] + words[n.Below(len(words))])
		}
		b.WriteString([]string{" .", "", " . p. q(_). :-entry(p)."}[n.Below(3)])
		s, at, err := Load(b.String(), n.Below(3)-1)
		if (err == api.OK) != (s != nil) || err == api.OK && at != 0 {
			t.Fatalf("%q %d %d", b.String(), at, err)
		}
		if s != nil {
			loaded++
		}
		for way := range 4 {
			for _, question := range []string{b.String(), "p.", "q(X)."} {
				got, _, err := s.Ask(way, question, emu.Limits{Fuel: n.Below(300), Heap: n.Below(100), Trail: n.Below(9), Choices: n.Below(9), Frames: n.Below(9)})
				if err == api.OK && !strings.HasSuffix(got, "\n") || err != api.OK && got != "" {
					t.Fatalf("%q %q %d", b.String(), got, err)
				}
			}
		}
	}
	if loaded < 10 {
		t.Error("too few are loaded", loaded)
	}
}
