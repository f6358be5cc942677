package emu

import (
	"reflect"
	"strings"
	"testing"

	"resolvent/api"
	"resolvent/code"
	"resolvent/compile"
	"resolvent/sample"
	"resolvent/sld"
	"resolvent/term"
	"resolvent/write"
)

var roomy = Limits{Fuel: 1000000, Heap: 1 << 18, Trail: 1 << 18, Choices: 1 << 18, Frames: 1 << 18}

func compiled(t *testing.T, text string) code.Code {
	c, err := compile.Compile(sample.Load(t, text))
	if err != api.OK {
		t.Fatal(text, err)
	}
	return c
}

func TestRun(t *testing.T) {
	for _, c := range [][3]string{
		{"p(a). p(b).", "p(X)", "yes(a); yes(b); no"},
		{"p(X,f(X)).", "p(A,A)", "no"},
		{"p(X,f(X)).", "p(A,B)", "yes(_0,f(_0)); no"},
		{"p(X,Y,X).", "p(B,A,C)", "yes(_0,_1,_0); no"},
		{"p(f(X,g(Y,1)),X,Y).", "p(f(A,B),C,a)", "yes(_0,g(a,1),_0); no"},
		{"p(f(X,g(Y,1)),X,Y).", "p(A,B,C)", "yes(f(_0,g(_1,1)),_0,_1); no"},
		{"p(f(X,X)).", "p(f(A,g(A)))", "no"},
		{sample.App, "app(X,Y,[1,2])", "yes([],[1,2]); yes([1],[2]); yes([1,2],[]); no"},
		{sample.App, "app([1],[2],X)", "yes([1,2]); no"},
		{"p(X,Y):-q(X),!,q(Y). p(9,9). q(1). q(2).", "p(X,Y)", "yes(1,1); yes(1,2); no"},
		{"p(X):-q(X),r. p(9). q(1). q(2). r:-!. r.", "p(X)", "yes(1); yes(2); yes(9); no"},
		{"p(X):-(q->X=1;X=2). p(3). q. q.", "p(X)", "yes(1); yes(3); no"},
		{"p(X):- \\+ X=a, X=1. p(2).", "p(X)", "yes(2); no"},
		{"p(X):-X\\=f(Y),X=1. p(X):-f(X,b)\\=f(a,c),q(X). q(2).", "p(X)", "yes(2); no"},
		{"p(X):-X is 2*3+1. p(X):-7 is X.", "p(X)", "yes(7); error 20"},
		{"p(X):-X is 1//0.", "p(X)", "error 23"},
		{"p(X):-X @< Y.", "p(X)", "error 20"},
		{"p(X,Y):-X==Y. p(X,Y):-X\\==Y,X @< 1,var(X),nonvar(f(X)),atom(a),integer(3),atomic(b),compound([a]),true,1<2,2>1,1=<1,1>=1,1=:=1,1=\\=2. p(_,_):-fail.", "p(X,Y)", "yes(_0,_1); no"},
		{"p(X):-Y=f(X),Z=Y,q(Z). q(f(a)).", "p(X)", "yes(a); no"},
		{"p(X,Y,Z):-q(Z,g(X)),X=Y. q(A,A).", "p(X,Y,Z)", "yes(_0,_0,g(_0)); no"},
		{"p. p.", "p", "yes(); yes(); no"},
		{"p(1). p(a). p(f(X)). p(1). p(f(X,Y)). p([]).", "p(f(Z))", "yes(_0); no"},
		{"p(1). p(a). p(f(X)). p(1). p(f(X,Y)). p([]).", "p(1)", "yes(); yes(); no"},
		{"p(1). p(a). p(f(X)). p(1). p(f(X,Y)). p([]).", "p(b)", "no"},
		{"p(1). p(a). p(f(X)). p(1). p(f(X,Y)). p([]).", "p(A)", "yes(1); yes(a); yes(f(_0)); yes(1); yes(f(_0,_1)); yes([]); no"},
		{"p(1). p(a). p(f(X)). p(2). p(f(X,Y)). p(b). p(g(X)).", "p(2)", "yes(); no"},
		{"p(1). p(a). p(f(X)). p(2). p(f(X,Y)). p(b). p(g(X)).", "p(3)", "no"},
		{"p(1). p(a). p(f(X)). p(2). p(f(X,Y)). p(b). p(g(X)).", "p(f(X,a))", "yes(_0); no"},
		{"p(1). p(a). p(f(X)). p(2). p(f(X,Y)). p(b). p(g(X)).", "p(g(Z))", "yes(_0); no"},
		{"p(1). p(a). p(f(X)). p(2). p(f(X,Y)). p(b). p(g(X)).", "p(b)", "yes(); no"},
		{"p(X):-X\\=f(X). p(X):-f(X)\\=f(X).", "p(X)", "yes(_0); no"},
		{"n(0). n(X):-n(Y),X is Y+1. p(X):-n(X),X > 30,!.", "p(X)", "yes(31); no"},
	} {
		r, err := Run(compiled(t, c[0]), sample.Query(t, c[1]), roomy)
		if err != api.OK || sample.Told(r.Events) != c[2] {
			t.Error(c[0], c[1], sample.Told(r.Events), err)
		}
	}
	r, _ := Run(compiled(t, "p:-p."), sample.Query(t, "p"), Limits{Fuel: 10, Heap: 1, Frames: 1})
	if sample.Told(r.Events) != "fuel" || r.Steps != 10 || r.Trail != 0 {
		t.Error("no more fuel", sample.Told(r.Events), r.Steps)
	}
}

func TestSpecialOperations(t *testing.T) {
	k := func(op code.Op) code.Instr { return code.Instr{Op: op, Kind: api.Atom, Name: "a"} }
	f := func(op, arg code.Op) []code.Instr {
		return []code.Instr{{Op: op, Name: "f", N: 1}, {Op: arg, A: 1}}
	}
	bound := code.Instr{Op: code.OpSwitchBound, A: -1, Cases: []code.Case{{Kind: api.Atom, Name: "a", To: 0}}}
	for i, c := range []struct {
		l    []code.Instr
		q    string
		want string
	}{
		{[]code.Instr{k(code.OpGetConstRead)}, "p(a)", "yes(); no"}, {[]code.Instr{k(code.OpGetConstRead)}, "p(X)", "no"}, {[]code.Instr{k(code.OpGetConstRead)}, "p(b)", "no"},
		{[]code.Instr{k(code.OpGetConstWrite)}, "p(X)", "yes(a); no"}, {[]code.Instr{k(code.OpGetConstWrite)}, "p(a)", "no"},
		{f(code.OpGetStructRead, code.OpUnifyVar), "p(f(b))", "yes(); no"}, {f(code.OpGetStructRead, code.OpUnifyVar), "p(X)", "no"}, {f(code.OpGetStructRead, code.OpUnifyVar), "p(g(b))", "no"}, {f(code.OpGetStructRead, code.OpUnifyVar), "p(a)", "no"},
		{f(code.OpGetStructWrite, code.OpUnifyVar), "p(X)", "yes(f(_0)); no"}, {f(code.OpGetStructWrite, code.OpUnifyVar), "p(f(b))", "no"}, {f(code.OpGetStruct, code.OpUnifyVar), "p(X)", "yes(f(_0)); no"},
		// Without asking, a variable is bound to what it occurs in: the term has no end.
		{f(code.OpGetStructWrite, code.OpUnifyVal), "p(X,X)", "full"}, {f(code.OpGetStruct, code.OpUnifyVal), "p(X,X)", "no"},
		{[]code.Instr{{Op: code.OpGetVal, A: 1}}, "p(X,f(X))", "no"}, {[]code.Instr{{Op: code.OpGetValSafe, A: 1}}, "p(X,f(X))", "full"}, {[]code.Instr{{Op: code.OpGetValSafe, A: 1}}, "p(X,f(a))", "yes(f(a)); no"},
		{f(code.OpGetStruct, code.OpUnifyVal), "p(f(X),g(X))", "no"}, {f(code.OpGetStruct, code.OpUnifyValSafe), "p(f(X),g(X))", "full"}, {f(code.OpGetStruct, code.OpUnifyValSafe), "p(f(X),g(b))", "yes(g(b)); no"},
		{[]code.Instr{bound}, "p(a)", "yes(); no"}, {[]code.Instr{bound}, "p(b)", "no"}, {[]code.Instr{bound}, "p(X)", "no"},
		{[]code.Instr{{Op: code.OpBuiltin, Name: "foo", N: 1}}, "p(X)", "error 1"}, {[]code.Instr{{Op: code.OpBuiltin, Name: "is", N: 3}}, "p(X)", "error 1"},
	} {
		cd := code.Code{Instrs: append([]code.Instr{{Op: code.OpAnswer}, {Op: code.OpFail}}, append(c.l, code.Instr{Op: code.OpProceed})...)}
		q := sample.Query(t, c.q)
		cd.Entry = map[api.Pred]int{{Name: "p", Arity: len(q.Args)}: 2}
		r, err := Run(cd, q, roomy)
		if err != api.OK || sample.Told(r.Events) != c.want {
			t.Error(i, sample.Told(r.Events), err)
		}
	}
}

func TestWithoutWhatIsAsked(t *testing.T) {
	answer := code.Instr{Op: code.OpAnswer}
	for i, c := range []struct {
		l    []code.Instr
		want string
	}{
		{[]code.Instr{{Op: code.OpDeallocate}}, "no"}, {[]code.Instr{{Op: code.OpCut}}, "no"}, {[]code.Instr{{Op: code.OpRetry, A: 0}}, "no"}, {[]code.Instr{{Op: code.OpTrust, A: 0}}, "no"},
		{[]code.Instr{{Op: code.OpAllocate, A: 1}, {Op: code.OpCut}, {Op: code.OpDeallocate}}, "yes(_0); no"},
		{[]code.Instr{{Op: code.OpExecute, A: 4}, {Op: code.OpGetStruct, Name: "f", N: 1}, {Op: code.OpUnifyVar, A: 1}}, "no"},
		// Registers that were never written, in the machine and in no environment.
		{[]code.Instr{{Op: code.OpGetVal, A: 77, B: 0}}, "yes(_0); no"}, {[]code.Instr{{Op: code.OpGetVal, A: -9, B: 0}}, "yes(_0); no"}, {[]code.Instr{{Op: code.OpGetVar, A: -9, B: 0}, {Op: code.OpGetVal, A: -9, B: 1}}, "yes(_0); no"},
		{[]code.Instr{{Op: code.OpGetConst, Kind: api.Int, N: 3, B: 99}, {Op: code.OpGetVal, A: -1, B: 0}}, "yes(3); no"},
		// A structure within itself while it is written is the variable at place 0.
		{[]code.Instr{{Op: code.OpPutStruct, A: 5, Name: "f", N: 1}, {Op: code.OpUnifyVal, A: 5}, {Op: code.OpGetVal, A: 5, B: 0}}, "yes(f(_0)); no"},
	} {
		cd := code.Code{Instrs: append([]code.Instr{answer, {Op: code.OpFail}}, append(c.l, code.Instr{Op: code.OpProceed})...), Entry: map[api.Pred]int{{Name: "p", Arity: 1}: 2}}
		r, err := Run(cd, sample.Query(t, "p(X)"), roomy)
		if err != api.OK || sample.Told(r.Events) != c.want {
			t.Error(i, sample.Told(r.Events), err)
		}
	}
	// A register keeps what it refers to when the heap ends ahead of that: a reference to place 0.
	stale := code.Code{Instrs: []code.Instr{
		answer, {Op: code.OpFail},
		{Op: code.OpTry, A: 4, B: 1}, {Op: code.OpTrust, A: 7, B: 1},
		{Op: code.OpPutStruct, A: 5, Name: "f", N: 1}, {Op: code.OpUnifyConst, Kind: api.Atom, Name: "a"}, {Op: code.OpFail},
		{Op: code.OpGetVal, A: 5, B: 0}, {Op: code.OpProceed},
	}, Entry: map[api.Pred]int{{Name: "p", Arity: 1}: 2}}
	if r, err := Run(stale, sample.Query(t, "p(X)"), roomy); err != api.OK || sample.Told(r.Events) != "yes(_0); no" {
		t.Error("stale", sample.Told(r.Events), err)
	}
}

func TestErrors(t *testing.T) {
	good := compiled(t, "p(a).")
	bad := code.Code{Instrs: []code.Instr{{Op: code.OpCut}}}
	p, v := sample.Query(t, "p(a)"), term.V(0)
	for i, c := range []struct {
		c   code.Code
		q   api.Term
		l   Limits
		err api.Errno
	}{
		{bad, v, Limits{Fuel: -1}, api.ErrCode}, {code.Code{Instrs: make([]code.Instr, code.MaxCode+1)}, v, Limits{}, api.ErrLong},
		{good, v, Limits{Fuel: -1}, api.ErrForm}, {good, api.Term{}, roomy, api.ErrForm}, {good, term.I(1), roomy, api.ErrForm}, {good, term.F("p", term.V(-1)), roomy, api.ErrForm}, {good, term.F("p", term.V(api.MaxVars)), roomy, api.ErrForm}, {good, term.F("p", term.F("f", term.V(1<<40))), roomy, api.ErrForm},
		{good, term.A("p"), Limits{Fuel: -1}, api.ErrUndef}, {good, term.F("q", v), roomy, api.ErrUndef}, {code.Code{Instrs: good.Instrs}, p, roomy, api.ErrUndef},
		{good, p, Limits{Fuel: -1}, api.ErrArg}, {good, p, Limits{Heap: -1}, api.ErrArg}, {good, p, Limits{Trail: -1}, api.ErrArg}, {good, p, Limits{Choices: -1}, api.ErrArg}, {good, p, Limits{Frames: -1}, api.ErrArg},
		{good, p, Limits{Fuel: 1000001}, api.ErrArg}, {good, p, Limits{Heap: 1<<18 + 1}, api.ErrArg}, {good, p, Limits{Trail: 1<<18 + 1}, api.ErrArg}, {good, p, Limits{Choices: 1<<18 + 1}, api.ErrArg}, {good, p, Limits{Frames: 1<<18 + 1}, api.ErrArg},
		{good, p, roomy, api.OK}, {good, p, Limits{}, api.OK}, {good, term.F("p", term.V(api.MaxVars-1)), roomy, api.OK},
	} {
		r, err := Run(c.c, c.q, c.l)
		if err != c.err || err != api.OK && (r.Events != nil || r.Steps != 0 || r.Trail != 0) || err == api.OK && len(r.Events) == 0 {
			t.Error(i, err, r)
		}
	}
}

func TestRoom(t *testing.T) {
	deep := "p(0). p(N):-M is N-1,p(M),q. q. "
	for i, c := range []struct {
		text, q string
		less    func(l *Limits)
		want    string
	}{
		{"p(a).", "p(X)", func(l *Limits) { l.Heap = 0 }, "full"},
		{"p(a).", "p(X)", func(l *Limits) { l.Heap = 1 }, "full"},
		{"p(a).", "p(X)", func(l *Limits) { l.Heap = 2 }, "yes(a); no"},
		{"p(f(a,b)).", "p(X)", func(l *Limits) { l.Heap = 4 }, "full"},
		{"p(f(a,b)).", "p(X)", func(l *Limits) { l.Heap = 5 }, "yes(f(a,b)); no"},
		{"p(f(a,b)).", "p(f(a,b))", func(l *Limits) { l.Heap = 3 }, "full"},
		{"p(f(a,b)).", "p(f(a,b))", func(l *Limits) { l.Heap = 4 }, "yes(); no"},
		{"p(a). p(b).", "p(X)", func(l *Limits) { l.Trail = 0 }, "full"},
		{"p(a). p(b).", "p(X)", func(l *Limits) { l.Trail = 1 }, "yes(a); yes(b); no"},
		{"p(a). p(b).", "p(X)", func(l *Limits) { l.Choices = 0 }, "full"},
		{"p(a). p(b).", "p(X)", func(l *Limits) { l.Choices = 1 }, "yes(a); yes(b); no"},
		{"p(a). p(b).", "p(b)", func(l *Limits) { l.Choices, l.Trail, l.Frames = 0, 0, 0 }, "yes(); no"},
		{"p(X):-q(X). q(a).", "p(X)", func(l *Limits) { l.Frames = 0 }, "full"},
		{"p(X):-q(X). q(a).", "p(X)", func(l *Limits) { l.Frames = 1 }, "yes(a); no"},
		{deep, "p(5)", func(l *Limits) { l.Frames = 5 }, "yes(); full"},
		{deep, "p(5)", func(l *Limits) { l.Frames = 4 }, "full"},
		{"p(X):-p(f(X,X)).", "p(a)", func(l *Limits) {}, "full"},
		{"p(X):-p(f(X)).", "p(a)", func(l *Limits) { l.Fuel = 5000 }, "fuel"},
		{"d(X,f(X,X)). p(R):-d(a,A),d(A,B),d(B,C),d(C,D),d(D,E),d(E,F),d(F,G),d(G,H),d(H,I),d(I,J),d(J,R).", "p(A)", func(l *Limits) {}, "yes"},
		{"d(X,f(X,X)). p(R):-d(a,A),d(A,B),d(B,C),d(C,D),d(D,E),d(E,F),d(F,G),d(G,H),d(H,I),d(I,J),d(J,K),d(K,R).", "p(A)", func(l *Limits) {}, "full"},
	} {
		l := roomy
		c.less(&l)
		r, err := Run(compiled(t, c.text), sample.Query(t, c.q), l)
		if got := sample.Told(r.Events); err != api.OK || got != c.want && !(c.want == "yes" && strings.HasPrefix(got, "yes(")) {
			t.Error(i, got, err)
		}
	}
}

func TestStepsAndTrail(t *testing.T) {
	for _, c := range []struct {
		text, q      string
		steps, trail int
	}{
		{"p(a).", "p(a)", 3, 0},                        // get, proceed, answer
		{"p(a).", "p(X)", 3, 0},                        // no choice, nothing on the trail
		{"p(a). p(b).", "p(X)", 9, 1},                  // switch, and by try and trust: each get, proceed, answer
		{"p(a). p(b).", "p(b)", 4, 0},                  // the switch, and one alone
		{"p(X,X). p(_,_).", "p(Y,Z)", 10, 1},           // Z is bound to Y
		{"p(X):-q(Y),X=1. p(_). q(a).", "p(Z)", -1, 1}, // Y is behind where the heap ended
		{"p(X):-X\\=b,q. p(_). q.", "p(a)", -1, 0},     // nothing is bound by \=
		{"p(X):-f(X)\\=f(b). p(_).", "p(X)", -1, 1},    // X is bound by \=, and put back
	} {
		r, err := Run(compiled(t, c.text), sample.Query(t, c.q), roomy)
		if err != api.OK || r.Trail != c.trail || c.steps >= 0 && r.Steps != c.steps {
			t.Error(c.text, c.q, r.Steps, r.Trail, sample.Told(r.Events))
		}
	}
}

// tree is a term of so many nodes.
func tree(nodes int) api.Term {
	if nodes == 1 {
		return term.A("a")
	}
	n := min(api.MaxArity, nodes-1)
	var l []api.Term
	for i := range n {
		l = append(l, tree((nodes-1+i)/n))
	}
	return term.F("f", l...)
}

func TestWorkOfOneInstruction(t *testing.T) {
	if term.Size(tree(api.MaxWork)) != api.MaxWork || term.Size(tree(api.MaxWork+1)) != api.MaxWork+1 {
		t.Fatal("tree")
	}
	c := compiled(t, "p(X,Y):-X=Y. q(_). r(X,X).")
	for i, x := range []struct {
		q    api.Term
		want string
	}{
		{term.F("p", tree(api.MaxWork), tree(api.MaxWork)), "yes(); no"}, {term.F("p", tree(api.MaxWork+1), tree(api.MaxWork+1)), "full"},
		{term.F("r", tree(api.MaxWork), tree(api.MaxWork)), "yes(); no"}, {term.F("r", tree(api.MaxWork+1), tree(api.MaxWork+1)), "full"},
		{term.F("p", term.F("g", term.V(0)), term.F("g", tree(api.MaxWork-2))), "yes"}, {term.F("p", term.F("g", term.V(0)), term.F("g", tree(api.MaxWork-1))), "full"},
		{term.F("p", tree(api.MaxWork-1), term.V(0)), "yes"}, {term.F("p", tree(api.MaxWork), term.V(0)), "full"},
		{term.F("q", tree(2*api.MaxWork)), "yes(); no"},
	} {
		r, err := Run(c, x.q, roomy)
		if got := sample.Told(r.Events); err != api.OK || got != x.want && !(x.want == "yes" && strings.HasPrefix(got, "yes(f(")) {
			t.Error(i, got, err)
		}
	}
	// A query's variable is told by what it is bound to, by the code, without a look at it.
	safe := code.Code{Instrs: []code.Instr{{Op: code.OpAnswer}, {Op: code.OpGetValSafe, A: 1}, {Op: code.OpProceed}}, Entry: map[api.Pred]int{{Name: "p", Arity: 2}: 1}}
	for nodes, want := range map[int]string{api.MaxWork: "yes(f(", api.MaxWork + 1: "full"} {
		r, err := Run(safe, term.F("p", term.V(0), tree(nodes)), roomy)
		if err != api.OK || !strings.HasPrefix(sample.Told(r.Events), want) {
			t.Error(nodes, sample.Told(r.Events)[:4], err)
		}
	}
}

func TestBuiltinsOfGreatTerms(t *testing.T) {
	const great = "d(X,f(X,X)). t(J):-d(a,A),d(A,B),d(B,C),d(C,D),d(D,E),d(E,F),d(F,G),d(G,H),d(H,I),d(I,J). p:-X=f(A,B,C),t(A),t(B),t(C),"
	for goal, want := range map[string]string{
		"X<1": "error 21", "Y is X": "error 21", "Y is X+Z": "error 21", "Y is Z+X": "error 20", "X==a": "full", "a==X": "full", "X @< a": "full", "X=X": "full", "X\\=X": "full",
		"X=Y": "full", "compound(X)": "yes(); no", "var(X)": "no", "atom(X)": "no", "X=a": "no", "X\\=a": "yes(); no",
	} {
		p := sample.Load(t, great+goal+" .")
		c, _ := compile.Compile(p)
		r, err := Run(c, sample.Query(t, "p"), roomy)
		if got := sample.Told(r.Events); err != api.OK || got != want {
			t.Error(goal, got, err)
		}
		l, _ := sld.Run(p, sample.Query(t, "p"), 1000)
		if !agree(sld.Answers(l), r.Events) {
			t.Error(goal, sample.Told(sld.Answers(l)))
		}
	}
}

// isBeginning tells whether the one's events, without the last one, are a beginning of the other's.
func isBeginning(a, b []api.Event) bool {
	return len(a) > 0 && len(a)-1 <= len(b) && reflect.DeepEqual(append([]api.Event{}, a[:len(a)-1]...), append([]api.Event{}, b[:len(a)-1]...))
}

// agree tells whether two runs agree: one goes on where the other one has no more, and who ends by itself has all.
func agree(a, b []api.Event) bool {
	if len(a) > len(b) {
		a, b = b, a
	}
	last := a[len(a)-1].Kind
	if last == api.EvEnd || last == api.EvError {
		return len(a) == len(b) && isBeginning(a, b) && (b[len(b)-1].Kind == last && a[len(a)-1].Code == b[len(b)-1].Code || b[len(b)-1].Kind == api.EvFuel || b[len(b)-1].Kind == api.EvFull)
	}
	return isBeginning(a, b)
}

func TestAnswersAsTheSpecification(t *testing.T) {
	n := sample.Numbers(1)
	answers, whole := 0, 0
	for range 1500 {
		text := n.Program()
		p := sample.Load(t, text)
		c, err := compile.Compile(p)
		if err != api.OK {
			t.Fatal(text, err)
		}
		q := sample.Query(t, n.Query())
		const steps = 80
		l, err := sld.Run(p, q, steps)
		if err != api.OK {
			t.Fatal(text, err)
		}
		want := sld.Answers(l)
		lim := roomy
		lim.Fuel = (steps + 2) * (2 + len(c.Instrs))
		r, err := Run(c, q, lim)
		if err != api.OK || !agree(want, r.Events) {
			t.Fatalf("%s\n%s\n%s\n%s", text, write.Text(q), sample.Told(want), sample.Told(r.Events))
		}
		if len(r.Events) < len(want) {
			t.Fatal("it has less than the steps have", text, sample.Told(want), sample.Told(r.Events))
		}
		answers += len(want) - 1
		if want[len(want)-1].Kind != api.EvFuel {
			whole++
		}
	}
	if answers < 500 || whole < 300 {
		t.Error("too few", answers, whole)
	}
}

func TestMoreTakesNothingAway(t *testing.T) {
	n := sample.Numbers(2)
	for range 300 {
		c := compiled(t, n.Program())
		q := sample.Query(t, n.Query())
		less := Limits{Fuel: n.Below(300), Heap: n.Below(60), Trail: n.Below(20), Choices: n.Below(12), Frames: n.Below(12)}
		more := Limits{Fuel: less.Fuel + n.Below(300), Heap: less.Heap + n.Below(60), Trail: less.Trail + n.Below(20), Choices: less.Choices + n.Below(12), Frames: less.Frames + n.Below(12)}
		a, _ := Run(c, q, less)
		b, _ := Run(c, q, more)
		if !isBeginning(a.Events, b.Events) || a.Steps > b.Steps {
			t.Fatal(sample.Told(a.Events), sample.Told(b.Events))
		}
		for i, e := range a.Events {
			if (e.Kind != api.EvAnswer) != (i == len(a.Events)-1) {
				t.Fatal("the last event, and no other", sample.Told(a.Events))
			}
		}
	}
}

// anyCode is some code that may be run, whatever it does.
func anyCode(n *sample.Numbers, size int) code.Code {
	var l []code.Instr
	register := func() int { return n.Below(8) - 3 }
	names := []string{"f", "g"}
	kind := func() code.Instr {
		return code.Instr{Kind: uint8(2 + n.Below(2)), Name: "a", N: int64(n.Below(2))}
	}
	for len(l) < size-1 {
		i := kind()
		i.Op = code.Op(1 + n.Below(int(code.OpUnifyValSafe)))
		switch i.Op {
		case code.OpAllocate:
			i.A = n.Below(4)
		case code.OpCall, code.OpExecute, code.OpTry, code.OpRetry, code.OpTrust:
			i.A, i.B, i.N = n.Below(size), n.Below(4), 1
		case code.OpBuiltin:
			b := [][2]string{{"=", "2"}, {"\\=", "2"}, {"is", "2"}, {"==", "2"}, {"var", "1"}, {"true", "0"}, {"nothing", "3"}, {"<", "2"}, {"compound", "1"}}[n.Below(9)]
			i.Name, i.N = b[0], int64(b[1][0]-'0')
		case code.OpSwitch, code.OpSwitchBound:
			i.A = n.Below(size)
			if i.Op == code.OpSwitchBound {
				i.A = -1
			}
			i.Cases = []code.Case{{Kind: api.Int, To: n.Below(size)}, {Kind: api.Atom, Name: "a", To: n.Below(size)}, {Kind: api.Struct, Name: "f", N: 2, To: n.Below(size)}}
		case code.OpUnifyVar, code.OpUnifyVal, code.OpUnifyConst, code.OpUnifyValSafe:
			continue
		case code.OpGetStruct, code.OpPutStruct, code.OpGetStructRead, code.OpGetStructWrite:
			i.Name, i.N, i.A, i.B = names[n.Below(2)], int64(1+n.Below(2)), n.Below(5), n.Below(5)
			l = append(l, i)
			for range i.N {
				u := kind()
				u.Op = []code.Op{code.OpUnifyVar, code.OpUnifyVal, code.OpUnifyConst, code.OpUnifyValSafe}[n.Below(4)]
				u.A = register()
				l = append(l, u)
			}
			continue
		default:
			i.A, i.B = register(), n.Below(5)
		}
		l = append(l, i)
	}
	l = append(l[:min(len(l), size+1)], code.Instr{Op: code.OpProceed})
	return code.Code{Instrs: l, Entry: map[api.Pred]int{{Name: "p", Arity: 2}: n.Below(size)}}
}

func TestAnyCodeEnds(t *testing.T) {
	n := sample.Numbers(3)
	ran, kinds := 0, map[uint8]int{}
	for range 20000 {
		c := anyCode(&n, 6+n.Below(14))
		if c.Check() != api.OK {
			continue
		}
		ran++
		q := sample.Query(t, "p("+n.Term(1)+","+n.Term(1)+")")
		less := Limits{Fuel: n.Below(200), Heap: n.Below(100), Trail: n.Below(20), Choices: n.Below(20), Frames: n.Below(20)}
		a, err := Run(c, q, less)
		b, _ := Run(c, q, Limits{Fuel: 400, Heap: 1000, Trail: 1000, Choices: 1000, Frames: 1000})
		if err != api.OK || !isBeginning(a.Events, b.Events) {
			t.Fatal(err, sample.Told(a.Events), sample.Told(b.Events))
		}
		for _, e := range b.Events {
			kinds[e.Kind]++
		}
	}
	if ran < 5000 || len(kinds) != 5 {
		t.Error("too few", ran, kinds)
	}
}
