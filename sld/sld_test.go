package sld

import (
	"reflect"
	"testing"

	"resolvent/api"
	"resolvent/sample"
	"resolvent/term"
)

func TestAnswers(t *testing.T) {
	for _, c := range [][3]string{
		{"p(a). p(b).", "p(X)", "yes(a); yes(b); no"},
		{"p(X):-q(X),!. q(a). q(b).", "p(X)", "yes(a); no"},
		{"p:-p.", "p", "fuel"},
		{"p(X):-X is 1//0.", "p(X)", "error 23"},
		{"p(X,f(X)).", "p(A,A)", "no"},
		{"p(X,f(X)).", "p(A,B)", "yes(_0,f(_0)); no"},
		{"p(X,Y,X).", "p(B,A,C)", "yes(_0,_1,_0); no"},
		{"p.", "p", "yes(); no"},
		{sample.App, "app(X,Y,[1,2])", "yes([],[1,2]); yes([1],[2]); yes([1,2],[]); no"},
		{sample.App, "app([1],[2],X)", "yes([1,2]); no"},
		{"p(X):-q(X),r(X). q(1). q(2). q(3). r(2). r(3).", "p(X)", "yes(2); yes(3); no"},
		{"p(X,Y):-q(X),!,q(Y). p(9,9). q(1). q(2).", "p(X,Y)", "yes(1,1); yes(1,2); no"},
		{"p(X):-q(X),r. p(9). q(1). q(2). r:-!. r.", "p(X)", "yes(1); yes(2); yes(9); no"},
		{"p(X):-q(X). p(3). q(X):-s(X),!. q(4). s(1). s(2).", "p(X)", "yes(1); yes(3); no"},
		{"p(X):-(X=1;X=2),!. p(3).", "p(X)", "yes(1); no"},
		{"p(X):-(q->X=1;X=2). p(3). q. q.", "p(X)", "yes(1); yes(3); no"},
		{"p(X):-(fail->X=1;X=2). p(3).", "p(X)", "yes(2); yes(3); no"},
		{"p(X):- \\+ X=a, X=1.", "p(X)", "no"},
		{"p(X):- X=b, \\+ X=a.", "p(X)", "yes(b); no"},
		{"p(X):-q(Y),X=Y. q(1). q(Z):-Z is a.", "p(X)", "yes(1); error 21"},
		{"p(X):-X @< Y.", "p(X)", "error 20"},
		{"p:-!. p:-p.", "p", "yes(); no"},
		{"n(0). n(X):-n(Y),X is Y+1. p(X):-n(X),X > 3,!.", "p(X)", "yes(4); no"},
	} {
		l, err := Run(sample.Load(t, c[0]), sample.Query(t, c[1]), 1000)
		if err != api.OK || sample.Told(Answers(l)) != c[2] {
			t.Error(c[0], c[1], sample.Told(Answers(l)), err)
		}
	}
}

func TestEvents(t *testing.T) {
	for _, c := range [][3]string{
		{"p(X):-q(X,Y),!,r(Y). q(1,a). q(2,b). r(a).", "p(Z)",
			"call p(_0); at 0 0(_0,_1); call q(_0,_1); exit q(1,a); at 0 1(1,a); at 0 2(1,a); call r(a); exit r(a); exit p(1); yes(1); no"},
		{"p(X):-X=f(Y),q(Y). q(b). q(c):-fail.", "p(A)",
			"call p(_0); at 0 0(_0,_1); at 0 1(f(_0),_0); call q(_0); exit q(b); exit p(f(b)); yes(f(b)); at 2 0(); no"},
		{"p(X,X). ", "p(A,f(B))", "call p(_0,f(_1)); exit p(f(_0),f(_0)); yes(f(_0),_0); no"},
		{"p:-X is Y.", "p", "call p(); at 0 0(_0,_1); error 20"},
	} {
		l, err := Run(sample.Load(t, c[0]), sample.Query(t, c[1]), 1000)
		if err != api.OK || sample.Told(l) != c[2] {
			t.Error(c[0], c[1], sample.Told(l), err)
		}
	}
	l, _ := Run(sample.Load(t, "p(X,Y):-q(Y). q(_):-X=Y,1 is Z. "), sample.Query(t, "p(A,B)"), 9)
	for i, want := range []api.Event{
		{Kind: api.EvCall, P: api.Pred{Name: "p", Arity: 2}, Terms: []api.Term{term.V(0), term.V(1)}},
		{Kind: api.EvPoint, Terms: []api.Term{term.V(0), term.V(1)}},
		{Kind: api.EvCall, P: api.Pred{Name: "q", Arity: 1}, Terms: []api.Term{term.V(0)}},
		{Kind: api.EvPoint, Clause: 1, Terms: []api.Term{term.V(0), term.V(1), term.V(2), term.V(3)}},
		{Kind: api.EvPoint, Clause: 1, Goal: 1, Terms: []api.Term{term.V(0), term.V(1), term.V(1), term.V(2)}},
		{Kind: api.EvError, Code: api.ErrInst},
	} {
		if i >= len(l) || !reflect.DeepEqual(l[i], want) {
			t.Error("event", i, l)
		}
	}
}

func TestFuel(t *testing.T) {
	p, q := sample.Load(t, "p(X):-q(X),X \\== a,!. p(z):-true. q(a). q(b). q(c)."), sample.Query(t, "p(X)")
	whole, _ := Run(p, q, 1000)
	last := -1
	for fuel := range 20 {
		l, err := Run(p, q, fuel)
		if err != api.OK || len(l) == 0 {
			t.Fatal(err)
		}
		if l[len(l)-1].Kind == api.EvEnd {
			if !reflect.DeepEqual(l, whole) {
				t.Error("the whole run is another one")
			}
			continue
		}
		last = fuel
		n := len(l) - 1
		if l[n].Kind != api.EvFuel || !reflect.DeepEqual(l[:n], whole[:n]) {
			t.Error("fuel", fuel, sample.Told(l))
		}
	}
	// p's clause; q's clauses a, b, each with its test; the cut; the answer.
	if last != 6 {
		t.Error("steps", last)
	}
	if l, _ := Run(sample.Load(t, "p."), sample.Query(t, "p"), 0); sample.Told(l) != "call p(); fuel" {
		t.Error("no fuel at all", sample.Told(l))
	}
	if l, _ := Run(sample.Load(t, "p."), sample.Query(t, "p"), 1); sample.Told(l) != "call p(); exit p(); fuel" {
		t.Error("fuel for one step", sample.Told(l))
	}
}

func TestFull(t *testing.T) {
	for _, c := range [][3]string{
		// A term that doubles: it becomes too great for one unification, or to be told.
		{"p(X):-p(f(X,X)).", "p(a)", "full"},
		{"d(X,f(X,X)). p(R):-d(a,A),d(A,B),d(B,C),d(C,D),d(D,E),d(E,F),d(F,G),d(G,H),d(H,I),d(I,J),d(J,K),d(K,R).", "p(A)", "full"},
	} {
		l, err := Run(sample.Load(t, c[0]), sample.Query(t, c[1]), 5000)
		if err != api.OK || sample.Told(Answers(l)) != c[2] {
			t.Error(c[0], sample.Told(Answers(l)), err)
		}
	}
	// A builtin's work is too much, though its point can be told.
	const ten = "d(X,f(X,X)). t(J):-d(a,A),d(A,B),d(B,C),d(C,D),d(D,E),d(E,F),d(F,G),d(G,H),d(H,I),d(I,J). p:-t(X),t(Y),f(X,X,c(b))="
	for _, c := range [][2]string{{"f(Y,Y,c(b)).", "full"}, {"f(Y,X,c(b)).", "full"}, {"f(Y,b,X).", "no"}, {"g(Y,Y).", "no"}} {
		l, _ := Run(sample.Load(t, ten+c[0]), sample.Query(t, "p"), 100)
		if sample.Told(Answers(l)) != c[1] || l[len(l)-2].Kind != api.EvPoint && c[1] == "full" {
			t.Error("a builtin", c[0], sample.Told(Answers(l)))
		}
	}
}

func TestFullHead(t *testing.T) {
	const ten = "d(X,f(X,X)). t(J):-d(a,A),d(A,B),d(B,C),d(C,D),d(D,E),d(E,F),d(F,G),d(G,H),d(H,I),d(I,J). "
	for head, want := range map[string]string{"q(X,X,c)": "no", "q(X,X,_)": "full", "q(_,b,_)": "no"} {
		l, err := Run(sample.Load(t, ten+"p:-t(A),t(B),t(C),q(A,B,C). "+head+"."), sample.Query(t, "p"), 100)
		if err != api.OK || sample.Told(Answers(l)) != want || want == "full" && l[len(l)-2].Kind != api.EvCall {
			t.Error(head, sample.Told(Answers(l)))
		}
	}
}

func TestErrors(t *testing.T) {
	p := sample.Load(t, "p(a). q.")
	bad := sample.Load(t, "p(a):-q.")
	for i, c := range []struct {
		p    api.Program
		q    api.Term
		fuel int
		err  api.Errno
	}{
		{bad, term.V(0), -1, api.ErrUndef},
		{p, term.V(0), -1, api.ErrForm},
		{p, term.I(0), 1, api.ErrForm},
		{p, api.Term{}, 1, api.ErrForm},
		{p, term.F("p", term.V(-1)), 1, api.ErrForm},
		{p, term.F("p", term.V(api.MaxVars)), 1, api.ErrForm},
		{p, term.F("p", term.F("f", term.V(1<<63-1))), 1, api.ErrForm},
		{p, term.F("r", term.V(0)), -1, api.ErrUndef},
		{p, term.A("p"), 1, api.ErrUndef},
		{p, term.F("=", term.V(0), term.V(0)), 1, api.ErrUndef},
		{p, term.A("!"), 1, api.ErrUndef},
		{api.Program{}, term.A("p"), 1, api.ErrUndef},
		{p, term.A("q"), -1, api.ErrArg},
		{p, term.A("q"), 100001, api.ErrArg},
		{p, term.A("q"), 100000, api.OK},
		{p, term.F("p", term.V(api.MaxVars-1)), 9, api.OK},
	} {
		if l, err := Run(c.p, c.q, c.fuel); err != c.err || (l == nil) != (err != api.OK) {
			t.Error(i, err)
		}
	}
}

func TestTheLastEventAlone(t *testing.T) {
	for _, text := range []string{"p(X):-q(X). q(1). q(2).", "p(X):-p(X).", "p(X):-X is a.", "p(X):-p(f(X,X))."} {
		l, _ := Run(sample.Load(t, text), sample.Query(t, "p(X)"), 200)
		for i, e := range l {
			isEnd := e.Kind == api.EvEnd || e.Kind == api.EvError || e.Kind == api.EvFuel || e.Kind == api.EvFull
			if isEnd != (i == len(l)-1) {
				t.Error(text, sample.Told(l))
			}
		}
	}
}

func TestAnswersAreAnsweredAgain(t *testing.T) {
	p, q := sample.Load(t, sample.App), sample.Query(t, "app(X,[Y|Z],[1,W,3])")
	l, _ := Run(p, q, 1000)
	vars := term.Vars(q)
	count := 0
	for _, e := range Answers(l) {
		if e.Kind != api.EvAnswer {
			continue
		}
		count++
		with := func(x api.Term) api.Term { return x }
		with = func(x api.Term) api.Term {
			if x.Kind == api.Var {
				for i, n := range vars {
					if n == x.N {
						return e.Terms[i]
					}
				}
			}
			args := make([]api.Term, len(x.Args))
			for i, a := range x.Args {
				args[i] = with(a)
			}
			x.Args = args
			return x
		}
		again, err := Run(p, with(q), 1000)
		if a := Answers(again); err != api.OK || len(a) == 0 || a[0].Kind != api.EvAnswer {
			t.Error("not answered again", sample.Told(again))
		}
	}
	if count != 3 {
		t.Error("answers", sample.Told(Answers(l)))
	}
}

func TestAnswersOfAnyEvents(t *testing.T) {
	l := []api.Event{{Kind: api.EvCall}, {}, {Kind: api.EvAnswer, Terms: []api.Term{term.F("f", term.I(1))}}, {Kind: api.EvExit}, {Kind: 99, Goal: 3}, {Kind: api.EvPoint}, {Kind: api.EvFull}}
	a := Answers(l)
	if len(a) != 4 || a[0].Kind != 0 || a[1].Kind != api.EvAnswer || a[2].Goal != 3 || a[3].Kind != api.EvFull || len(Answers(nil)) != 0 {
		t.Error("Answers", a)
	}
	a[1].Terms[0].Args[0] = term.I(2)
	if l[2].Terms[0].Args[0].N != 1 {
		t.Error("memory is shared")
	}
}

func TestLongRunsEndSoon(t *testing.T) {
	l, err := Run(sample.Load(t, "n(0). n(X):-n(Y),X is Y+1. p:-n(X),X > 30000. q(X,Y):-q(Y,Z)."), sample.Query(t, "q(A,B)"), 100000)
	if err != api.OK || l[len(l)-1].Kind != api.EvFuel {
		t.Error(err)
	}
	l, err = Run(sample.Load(t, "c(0). c(N):-N>0,M is N-1,c(M)."), sample.Query(t, "c(100000)"), 100000)
	if err != api.OK || l[len(l)-1].Kind != api.EvFuel {
		t.Error(err)
	}
}
