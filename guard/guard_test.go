package guard

import (
	"testing"

	"resolvent/api"
	"resolvent/desc"
	"resolvent/parse"
	"resolvent/rename"
	"resolvent/term"
)

func query(t *testing.T, text string) api.Term {
	l, at, err := parse.Terms(text + " .")
	if err != api.OK {
		t.Fatal(text, at, err)
	}
	return l[0].T
}

func entry(name string, modes ...uint8) api.Entry { return api.Entry{Name: name, Modes: modes} }

const any, ground, free, integer, atom = api.ModeAny, api.ModeGround, api.ModeFree, api.ModeInt, api.ModeAtom

func TestGuard(t *testing.T) {
	gf, ff := entry("p", ground, free), entry("p", free, free)
	for i, c := range []struct {
		e    api.Entry
		q    string
		want api.Errno
	}{
		{gf, "p(a,X)", api.OK}, {gf, "p(X,Y)", api.ErrPattern}, {gf, "q(a,X)", api.ErrPattern}, {ff, "p(X,X)", api.ErrPattern}, {ff, "p(X,Y)", api.OK},
		{gf, "p(a)", api.ErrPattern}, {gf, "p(a,X,b)", api.ErrPattern}, {gf, "p", api.ErrPattern}, {gf, "p(f(a,[1]),X)", api.OK}, {gf, "p(f(Y),X)", api.ErrPattern}, {gf, "p(a,b)", api.ErrPattern},
		{entry("p", integer, atom), "p(1,a)", api.OK}, {entry("p", integer, atom), "p(a,a)", api.ErrPattern}, {entry("p", integer, atom), "p(1,1)", api.ErrPattern}, {entry("p", integer), "p(X)", api.ErrPattern}, {entry("p", atom), "p(f(a))", api.ErrPattern},
		{entry("p", any, any), "p(X,f(X))", api.OK}, {entry("p", any, free), "p(f(X),X)", api.ErrPattern}, {entry("p", any, free), "p(f(Y),X)", api.OK},
		{entry("p"), "p", api.OK}, {entry("p"), "q", api.ErrPattern},
		{gf, "X", api.ErrForm}, {gf, "3", api.ErrForm}, {entry("p", 9), "X", api.ErrForm}, {entry("p", 9), "p(a)", api.ErrArg}, {entry("p", 9), "q", api.ErrArg}, {entry("p", any, 5), "p(a,b)", api.ErrArg},
	} {
		if err := Guard(c.e, query(t, c.q)); err != c.want {
			t.Error(i, err)
		}
	}
	p := entry("p", any)
	for i, q := range []api.Term{{}, term.F("p", term.V(-1)), term.F("p", term.V(api.MaxVars)), {Kind: api.Struct, Name: "p"}, {Kind: api.Atom, Name: "p", N: 1}, {Kind: 9, Name: "p", Args: []api.Term{term.A("a")}}} {
		if err := Guard(p, q); err != api.ErrForm {
			t.Error("no such term", i, err)
		}
	}
	if Guard(p, term.F("p", term.V(api.MaxVars-1))) != api.OK || Guard(entry("p", make([]uint8, 100)...), term.A("p")) != api.ErrPattern || Guard(entry("p", make([]uint8, 17)...), term.F("p", make([]api.Term, 17)...)) != api.ErrForm {
		t.Error("great ones")
	}
}

func TestFind(t *testing.T) {
	l := []api.Entry{entry("p", 77), entry("p", integer), entry("p", ground), entry("q"), entry("p", any), entry("p", any)}
	for text, want := range map[string]int{"p(1)": 1, "p(a)": 2, "p(f(1))": 2, "p(X)": 4, "q": 3} {
		if place, err := Find(l, query(t, text)); place != want || err != api.OK {
			t.Error(text, place, err)
		}
	}
	for text, want := range map[string]api.Errno{"r": api.ErrPattern, "q(1)": api.ErrPattern, "X": api.ErrForm, "1": api.ErrForm} {
		if place, err := Find(l, query(t, text)); place != -1 || err != want {
			t.Error(text, place, err)
		}
	}
	if place, err := Find(l[1:], query(t, "p(1)")); place != 0 || err != api.OK {
		t.Error("the first one", place, err)
	}
	if place, err := Find(nil, term.A("p")); place != -1 || err != api.ErrPattern {
		t.Error("of none", place, err)
	}
	if place, err := Find(nil, api.Term{}); place != -1 || err != api.ErrForm {
		t.Error("no term", place, err)
	}
	if place, err := Find(l[:1], query(t, "p(a)")); place != -1 || err != api.ErrPattern {
		t.Error("of other modes alone", place, err)
	}
}

func TestWhatFollows(t *testing.T) {
	texts := []string{"p(X,Y)", "p(X,X)", "p(a,X)", "p(X,a)", "p(1,X)", "p(X,1)", "p(f(X),X)", "p(f(X),Y)", "p(f(a),[])", "p(1,a)", "p(a,1)", "p(Y,f(X))"}
	wider := map[uint8]uint8{any: any, ground: any, integer: any, atom: any, free: free}
	for _, text := range texts {
		q := query(t, text)
		for m := any; m <= atom; m++ {
			for n := any; n <= atom; n++ {
				e := entry("p", m, n)
				err := Guard(e, q)
				if (err == api.OK) != desc.Entry(e.Modes).In(q.Args) {
					t.Error("not as the entry's modes say", text, m, n)
				}
				if Guard(e, rename.Shift(q, 7)) != err || Guard(e, rename.Canon(query(t, "g(Y,X)="+text))[0].Args[1]) != err {
					t.Error("a variant is not within", text, m, n)
				}
				if err == api.OK && Guard(entry("p", wider[m], wider[n]), q) != api.OK {
					t.Error("not within the wider one", text, m, n)
				}
			}
		}
	}
}
