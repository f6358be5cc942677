package analyse

import (
	"slices"
	"strconv"
	"strings"
	"testing"

	"resolvent/absuni"
	"resolvent/api"
	"resolvent/desc"
	"resolvent/graph"
	"resolvent/pos"
	"resolvent/sample"
	"resolvent/sld"
	"resolvent/term"
	"resolvent/types"
)

func analysed(t *testing.T, text string) *Table {
	p := sample.Load(t, text)
	table, err := Analyse(p, p.Entries[0])
	if err != api.OK {
		t.Fatal(text, err)
	}
	return table
}

func pred(name string, arity int) api.Pred { return api.Pred{Name: name, Arity: arity} }

func TestExample(t *testing.T) {
	table := analysed(t, sample.App+":-entry(app(ground,ground,free)).")
	c, s := table.Call(pred("app", 3)), table.Success(pred("app", 3))
	if c.Text() != desc.Entry([]uint8{1, 1, 2}).Text() {
		t.Error("the call", c.Text())
	}
	if !s.Ground().Entails(0) || !s.Ground().Entails(1) || !s.Ground().Entails(2) || len(s.Share()) != 0 || s.Type(0).Text() != types.Join(types.Atoms("[]"), types.Fun(".", types.Any(), types.Any())).Text() {
		t.Error("the success", s.Text())
	}
	if !table.Stable() || table.Steps() < 4 || table.Steps() > 12 {
		t.Error("Stable, Steps", table.Steps())
	}
}

func TestSteps(t *testing.T) {
	for text, steps := range map[string]int{
		"p. :-entry(p).":                      1,
		"p. p. q. :-entry(p).":                2,
		"p:-q. q. :-entry(p).":                3, // p, q, p
		"p:-fail,q. q. :-entry(p).":           1,
		"p:-p. :-entry(p).":                   1,
		"p:-q. q:-fail. :-entry(p).":          2, // p, q
		"p. p:-p. :-entry(p).":                4, // p once more, for its success
		"p:-q,r. q. r. :-entry(p).":           5, // p, q, p, r, p
		"p:-r,q. q:-r. r. :-entry(p).":        5, // p, r, p, q, p: r waits no more
		"p:-q(1). p:-q(a). q(_). :-entry(p).": 5, // q waits once
	} {
		if table := analysed(t, text); table.Steps() != steps || !table.Stable() {
			t.Error(text, table.Steps())
		}
	}
}

func TestStable(t *testing.T) {
	text := "p(X):-q(X,f(Y)). q(A,A). :-entry(p(free))."
	for i, change := range []func(table *Table){
		func(table *Table) { table.calls[pred("q", 2)] = desc.Bottom(2) },
		func(table *Table) { table.calls[pred("q", 2)] = desc.Fresh(2) },
		func(table *Table) { table.successes[pred("q", 2)] = desc.Bottom(2) },
		func(table *Table) { table.successes[pred("p", 1)] = desc.Entry([]uint8{api.ModeGround}) },
	} {
		table := analysed(t, text)
		if !table.Stable() {
			t.Error("not stable")
		}
		change(table)
		if table.Stable() {
			t.Error("stable", i)
		}
	}
}

func TestPointAndHead(t *testing.T) {
	table := analysed(t, "p(X,f(Y)):-X=Y,q(Z,X),r. q(Z,X):-Z=X. r. s. :-entry(p(ground,any)).")
	p, q := pred("p", 2), pred("q", 2)
	head := desc.Make(5, pos.Var(3), nil, []int{0, 1, 2}, nil)
	if got := table.Head(0, 0); got.Text() != head.Text() {
		t.Error("ahead of the first Arg", got.Text())
	}
	head = absuni.Unify(head, term.V(3), term.V(0))
	if got := table.Head(0, 1); got.Text() != head.Text() {
		t.Error("ahead of the second Arg", got.Text())
	}
	head = absuni.Unify(head, term.V(4), term.F("f", term.V(1)))
	if got := table.Head(0, 2); got.Text() != head.Text() {
		t.Error("behind all Args", got.Text())
	}
	point := head.Project([]int{0, 1, 2})
	if got := table.Point(0, 0); got.Text() != point.Text() {
		t.Error("the first point", got.Text())
	}
	d := absuni.Unify(head, term.V(0), term.V(1))
	if got := table.Point(0, 1); got.Text() != d.Project([]int{0, 1, 2}).Text() {
		t.Error("the second point", got.Text())
	}
	args := []api.Term{term.V(2), term.V(0)}
	if table.Call(q).Text() != absuni.Call(d, args).Text() {
		t.Error("the call", table.Call(q).Text())
	}
	d = absuni.Return(d, args, table.Success(q))
	if got := table.Point(0, 2); got.Text() != d.Project([]int{0, 1, 2}).Text() || !got.Ground().Entails(2) {
		t.Error("the third point", got.Text())
	}
	if table.Success(p).Text() != d.Project([]int{3, 4}).Text() {
		t.Error("the success", table.Success(p).Text())
	}
	for i, b := range []desc.D{table.Point(0, 3), table.Point(0, -1), table.Point(4, 0), table.Point(-1, 0), table.Point(2, 0), table.Head(0, 3), table.Head(0, -1), table.Head(9, 0), table.Head(3, 0), table.Call(pred("s", 0)), table.Call(pred("x", 0)), table.Call(pred("p", 1)), table.Success(pred("s", 0)), table.Success(pred("x", 7))} {
		if !b.IsBottom() {
			t.Error("bottom of others", i, b.Text())
		}
	}
}

func TestPlacesOfBottom(t *testing.T) {
	app := analysed(t, sample.App+":-entry(app(ground,ground,free)).")
	never := analysed(t, "p(X,f(Y)):-fail,q(Z). q(X):-r(X,Y,Y),s. r(1,2,_). s. :-entry(p(any,any)).")
	var none *Table
	for i, c := range []struct {
		d desc.D
		n int
	}{
		{app.Point(1, 1), 4}, {app.Point(1, -1), 4}, {app.Point(1, 1<<62), 4}, {app.Point(0, 0), 1}, {app.Point(0, 7), 1},
		{app.Head(1, 4), 7}, {app.Head(1, -1), 7}, {app.Head(1, -1<<62), 7}, {app.Head(0, 4), 4}, {app.Head(0, 99), 4},
		// Of a clause that there is not, and of nil, there are no places.
		{app.Point(2, 0), 0}, {app.Point(-1, 0), 0}, {app.Point(1<<62, 1), 0}, {app.Head(2, 0), 0}, {app.Head(-1, 3), 0}, {app.Head(-1<<62, 0), 0},
		{none.Point(0, 0), 0}, {none.Head(0, 0), 0}, {none.Point(-1, -1), 0}, {none.Head(1, 9), 0},
		// What is not come by is bottom of as many places as what is not there.
		{never.Point(0, 1), 3}, {never.Point(0, 2), 3}, {never.Point(1, 0), 2}, {never.Point(1, 1), 2}, {never.Point(1, 2), 2}, {never.Point(2, 0), 1}, {never.Point(3, 0), 0},
		{never.Head(0, 3), 5}, {never.Head(1, 0), 3}, {never.Head(1, 1), 3}, {never.Head(1, 2), 3}, {never.Head(2, 1), 4}, {never.Head(2, 3), 4}, {never.Head(2, 4), 4}, {never.Head(3, 0), 0}, {never.Head(3, 1), 0},
		{never.Call(pred("q", 1)), 1}, {never.Success(pred("r", 3)), 3},
	} {
		if !c.d.IsBottom() || c.d.N() != c.n {
			t.Error(i, "bottom of places", c.d.N(), c.n)
		}
	}
	for i, c := range []struct {
		d desc.D
		n int
	}{{app.Point(1, 0), 4}, {app.Head(1, 0), 7}, {app.Head(1, 3), 7}, {app.Head(0, 3), 4}, {never.Point(0, 0), 3}, {never.Head(0, 2), 5}} {
		if c.d.IsBottom() || c.d.N() != c.n {
			t.Error(i, "what there is", c.d.N(), c.n)
		}
	}
}

func TestCallsAreJoined(t *testing.T) {
	table := analysed(t, "p:-q(1),q(a),q([]). q(_). :-entry(p).")
	if c := table.Call(pred("q", 1)); c.Type(0).Text() != types.Join(types.Int(), types.Atoms("a", "[]")).Text() {
		t.Error("the call", c.Text())
	}
	table = analysed(t, "p(1). p(f(Y)). :-entry(p(free)).")
	if s := table.Success(pred("p", 1)); s.Type(0).Text() != types.Join(types.Int(), types.Fun("f", types.Any())).Text() || s.Ground().Entails(0) || len(s.Free()) != 0 {
		t.Error("the success", s.Text())
	}
}

func TestNilAndErrors(t *testing.T) {
	var none *Table
	if !none.Call(pred("p", 1)).IsBottom() || !none.Success(pred("p", 1)).IsBottom() || !none.Point(0, 0).IsBottom() || !none.Head(0, 0).IsBottom() || none.Steps() != 0 || !none.Stable() {
		t.Error("of nil")
	}
	p := sample.Load(t, "p(X):-q. q.")
	bad := sample.Load(t, "p(X):-r. q.")
	for i, c := range []struct {
		p   api.Program
		e   api.Entry
		err api.Errno
	}{
		{bad, api.Entry{Name: "z", Modes: []uint8{9}}, api.ErrUndef},
		{api.Program{Clauses: make([]api.Clause, 1)}, api.Entry{}, api.ErrForm},
		{p, api.Entry{Name: "p"}, api.ErrUndef},
		{p, api.Entry{Name: "z", Modes: []uint8{9}}, api.ErrUndef},
		{p, api.Entry{Name: "p", Modes: []uint8{5}}, api.ErrArg},
		{api.Program{}, api.Entry{}, api.ErrUndef},
	} {
		if table, err := Analyse(c.p, c.e); err != c.err || table != nil {
			t.Error(i, err)
		}
	}
	if table, err := Analyse(p, api.Entry{Name: "q"}); err != api.OK || table == nil {
		t.Error("an entry that is none of the program's", err)
	}
}

func TestProgramIsNotKept(t *testing.T) {
	p := sample.Load(t, "p(X):-q(f(X)). q(f(_)). :-entry(p(any)).")
	table, _ := Analyse(p, p.Entries[0])
	p.Clauses[1].Head.Args[0] = term.I(1)
	p.Clauses[0].Body[0].Args[0].Args[0] = term.A("a")
	p.Clauses = nil
	if !table.Stable() || table.Success(pred("q", 1)).IsBottom() {
		t.Error("what is handed in is kept")
	}
}

// programs are texts, with an entry, and queries within it.
var programs = []struct {
	text    string
	queries []string
}{
	{sample.App + ":-entry(app(ground,ground,free)).", []string{"app([1,2],[3],X)", "app([],a,X)", "app(b,a,X)"}},
	{sample.App + ":-entry(app(any,any,any)).", []string{"app(X,Y,[1,Z])", "app([X|Y],Y,Z)", "app(X,X,[1,1])", "app(X,[Y|X],Z)"}},
	{sample.App + "rev([],[]). rev([X|L],R):-rev(L,S),app(S,[X],R). :-entry(rev(ground,free)).", []string{"rev([1,2,3],X)", "rev([],X)", "rev([[],f(a)],X)"}},
	{sample.App + "rev([],[]). rev([X|L],R):-rev(L,S),app(S,[X],R). :-entry(rev(any,free)).", []string{"rev([X,2,Y],Z)", "rev([X,X],Z)"}},
	{"len([],0). len([_|L],N):-len(L,M),N is M+1. :-entry(len(any,any)).", []string{"len([A,B,C],X)", "len([A|B],2)", "len(A,B)", "len([A],A)"}},
	{"p(X,Y):-X=f(Y,Z),q(Z,Y). q(A,A). q(A,B):-A=g(B,C),r(C). r(1). r(_):-fail. :-entry(p(any,any)).", []string{"p(X,Y)", "p(f(A,B),C)", "p(f(A,A),A)", "p(X,X)"}},
	{"p(X):-(X=1;X=a;X=f(Y),q(Y)). q(b). q(X):- \\+ X=a. :-entry(p(free)).", []string{"p(X)"}},
	{"m(X,Y):-X<Y,!,w(X). m(_,Y):-w(Y). w(X):-(integer(X)->true;atom(X)). :-entry(m(integer,any)).", []string{"m(1,2)", "m(3,2)", "m(1,a)", "m(1,X)"}},
	{"t(X,Y,Z):-X=Y,(var(Y)->Z=X;nonvar(Y),Z=g(X)). :-entry(t(free,any,free)).", []string{"t(X,Y,Z)", "t(X,a,Z)", "t(X,f(Y),Z)"}},
	{"s(0,X,X). s(N,X,Y):-N>0,M is N-1,s(M,f(X,X),Y). :-entry(s(integer,free,free)).", []string{"s(3,X,Y)", "s(0,X,Y)"}},
	{"n(z). n(s(X)):-n(X). p(X,Y):-n(X),X=Y. :-entry(p(any,any)).", []string{"p(X,Y)", "p(s(s(X)),s(Y))"}},
	{"e(X):-o(X). e([]). o([_|X]):-e(X). :-entry(e(any)).", []string{"e(X)", "e([A,B|A])", "e([1,2])"}},
	{"d(X,Y):-X==Y. d(X,Y):-X\\==Y,c(X,Y). c(f(A),f(B)):-d(A,B). c(X,_):-atomic(X),compound(f(X)). :-entry(d(any,ground)).", []string{"d(X,a)", "d(f(X),f(a))", "d(f(f(b)),f(f(a)))"}},
	{"p(A,B,C,D):-A=B,q(B,C),C=D,r(A,D). q(f(X),X). r(f(1),_). r(_,Y):-Y=2. :-entry(p(free,any,any,free)).", []string{"p(A,B,C,D)", "p(A,B,B,D)", "p(A,f(B),C,D)"}},
}

func TestRunsAreDescribed(t *testing.T) {
	events := 0
	for _, c := range programs {
		p := sample.Load(t, c.text)
		table, err := Analyse(p, p.Entries[0])
		if err != api.OK || !table.Stable() {
			t.Fatal(c.text, err)
		}
		for _, text := range c.queries {
			q := sample.Query(t, text)
			if !desc.Entry(p.Entries[0].Modes).In(q.Args) {
				t.Fatal("not within the entry", text)
			}
			l, err := sld.Run(p, q, 150)
			if err != api.OK {
				t.Fatal(text, err)
			}
			events += len(l)
			areDescribed(t, table, c.text+text, l)
		}
	}
	if events < 1500 {
		t.Error("too few events", events)
	}
}

func areDescribed(t *testing.T, table *Table, text string, l []api.Event) {
	t.Helper()
	for _, e := range l {
		is, d := true, desc.D{}
		switch e.Kind {
		case api.EvCall:
			d = table.Call(e.P)
			is = d.In(e.Terms)
		case api.EvExit:
			d = table.Success(e.P)
			is = d.In(e.Terms)
		case api.EvPoint:
			d = table.Point(e.Clause, e.Goal)
			is = d.In(e.Terms)
		}
		if !is {
			t.Fatalf("%s: %v\n%s", text, e, d.Text())
		}
	}
}

func TestAnyProgramsAreDescribed(t *testing.T) {
	n := sample.Numbers(11)
	events := 0
	for range 250 {
		text := n.Program()
		p := sample.Load(t, text)
		table, err := Analyse(p, p.Entries[0])
		if err != api.OK || !table.Stable() || table.Steps() < 1 {
			t.Fatal(text, err)
		}
		for range 6 {
			q := sample.Query(t, n.Query())
			if !desc.Entry(p.Entries[0].Modes).In(q.Args) {
				continue
			}
			l, err := sld.Run(p, q, 60)
			if err != api.OK {
				t.Fatal(err)
			}
			events += len(l)
			areDescribed(t, table, text, l)
		}
	}
	if events < 3000 {
		t.Error("too few events", events)
	}
}

func TestTheLeast(t *testing.T) {
	// The table of an entry is the same each time, and says nothing of what is not called.
	text := programs[3].text
	one, two := analysed(t, text), analysed(t, text)
	for _, p := range graph.Preds(sample.Load(t, text)) {
		if one.Call(p).Text() != two.Call(p).Text() || one.Success(p).Text() != two.Success(p).Text() {
			t.Error("another table", p)
		}
	}
	if !slices.Equal([]int{one.Steps()}, []int{two.Steps()}) {
		t.Error("Steps")
	}
}

func TestGreatProgramsEnd(t *testing.T) {
	var b strings.Builder
	for i := range 12 {
		b.WriteString("p" + strconv.Itoa(i) + "(A,B,C,D,E,F,G,H):-p" + strconv.Itoa((i+1)%12) + "(f(B),A,D,C,F,E,H,G),p" + strconv.Itoa((i*7+3)%12) + "(H,[A|B],B,C,D,E,F,G),A=B.\n")
		b.WriteString("p" + strconv.Itoa(i) + "(A,A,B,B,[X|Y],f(X,Y),Z,Z).\n")
	}
	b.WriteString(":-entry(p0(any,free,ground,any,free,any,any,integer)).")
	if table := analysed(t, b.String()); !table.Stable() || table.Steps() > 5000 {
		t.Error("Steps", table.Steps())
	}
}
