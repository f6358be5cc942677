package absuni

import (
	"slices"
	"testing"

	"resolvent/api"
	"resolvent/builtin"
	"resolvent/desc"
	"resolvent/parse"
	"resolvent/pos"
	"resolvent/subst"
	"resolvent/term"
	"resolvent/types"
	"resolvent/unify"
)

// read reads a term; X, Y, Z, W are places 0, 1, 2, 3.
func read(t *testing.T, text string) api.Term {
	l, at, err := parse.Terms("g(X,Y,Z,W)=(" + text + ") .")
	if err != api.OK {
		t.Fatal(text, at, err)
	}
	return l[0].T.Args[1]
}

func is(l ...int) [][2]int {
	var r [][2]int
	for i := 0; i+1 < len(l); i += 2 {
		r = append(r, [2]int{l[i], l[i+1]})
	}
	return r
}

// after is a description after goals.
func after(t *testing.T, d desc.D, goals ...string) desc.D {
	for _, g := range goals {
		d = Builtin(d, read(t, g))
	}
	return d
}

var anyType, list = types.Any(), types.List(types.Any())

func TestExamples(t *testing.T) {
	d := after(t, desc.Fresh(2), "X=f(Y)")
	if !slices.Equal(d.Share(), is(0, 1)) || !slices.Equal(d.Free(), []int{1}) || d.Type(0).Text() != types.Fun("f", anyType).Text() || !d.Ground().Same(pos.Iff(0, []int{1})) {
		t.Error("X = f(Y)", d.Text())
	}
	d = after(t, desc.Fresh(2), "X=a", "Y=X")
	if !d.Ground().Entails(0) || !d.Ground().Entails(1) || d.Type(0).Text() != types.Atoms("a").Text() || d.Type(1).Text() != types.Atoms("a").Text() {
		t.Error("X = a, Y = X", d.Text())
	}
	d = after(t, desc.Fresh(2), "X is 1+2")
	if !d.Ground().Same(pos.Var(0)) || d.Type(0).Text() != types.Int().Text() || !slices.Equal(d.Free(), []int{1}) {
		t.Error("X is 1 + 2", d.Text())
	}
	if !after(t, desc.Fresh(2), "Y < 3").IsBottom() || !after(t, desc.Fresh(2), "X=f(X)").IsBottom() {
		t.Error("Y < 3, X = f(X)")
	}
}

func TestUnify(t *testing.T) {
	yes := pos.Const(true)
	make4 := func(ground pos.Func, share [][2]int, free []int, of ...types.T) desc.D {
		return desc.Make(4, ground, share, free, of)
	}
	for i, c := range []struct {
		d    desc.D
		a, b string
		want desc.D
	}{
		{desc.Fresh(4), "X", "X", desc.Fresh(4)},
		{desc.Top(4), "X", "X", desc.Top(4)},
		{desc.Fresh(4), "X", "Y", make4(pos.Iff(0, []int{1}), is(0, 1), []int{0, 1, 2, 3})},
		{make4(yes, is(0, 2, 1, 3), []int{0, 1, 2, 3}), "X", "Y", make4(pos.Iff(0, []int{1}), is(0, 1, 0, 2, 0, 3, 1, 2, 1, 3, 2, 3), []int{0, 1, 2, 3})},
		{make4(yes, is(0, 2, 1, 3), []int{0, 1, 2, 3}), "X", "f(Y)", make4(pos.Iff(0, []int{1}), is(0, 1, 0, 2, 0, 3, 1, 2, 1, 3, 2, 3), []int{1, 3}, types.Fun("f", anyType))},
		{make4(yes, is(0, 2, 1, 3), []int{0, 1, 2, 3}), "f(Y)", "X", make4(pos.Iff(0, []int{1}), is(0, 1, 0, 2, 0, 3, 1, 2, 1, 3, 2, 3), []int{1, 3}, types.Fun("f", anyType))},
		{make4(yes, is(0, 2, 1, 3), []int{1, 2, 3}), "X", "Y", make4(pos.Iff(0, []int{1}), is(0, 1, 0, 2, 0, 3, 1, 2, 1, 3, 2, 3), []int{2})},
		{make4(yes, is(0, 2, 1, 3), []int{0, 2, 3}), "X", "Y", make4(pos.Iff(0, []int{1}), is(0, 1, 0, 2, 0, 3, 1, 2, 1, 3, 2, 3), []int{3})},
		{make4(yes, is(0, 2, 1, 3), []int{2, 3}), "X", "Y", make4(pos.Iff(0, []int{1}), is(0, 1, 0, 2, 0, 3, 1, 2, 1, 3, 2, 3), nil)},
		{make4(yes, is(0, 1, 0, 2), nil), "X", "a", make4(pos.Var(0), nil, nil, types.Atoms("a"))},
		{make4(yes, is(0, 2), []int{0, 2}), "X", "a", make4(pos.Var(0), nil, nil, types.Atoms("a"))},
		{make4(pos.Var(1), is(0, 2), []int{0, 2, 3}), "X", "f(Y)", make4(pos.And(pos.Var(0), pos.Var(1)), nil, []int{3}, types.Fun("f", anyType))},
		{desc.Fresh(4), "f(X,g(Y),a,1)", "f(b,Z,a,1)", make4(pos.And(pos.Var(0), pos.Iff(2, []int{1})), is(1, 2), []int{1, 3}, types.Atoms("b"), anyType, types.Fun("g", anyType))},
		{make4(yes, is(0, 1), nil, list), "X", "Y", make4(pos.Iff(0, []int{1}), is(0, 1), nil, list, list)},
		{make4(yes, is(0, 1), nil, list), "X", "[Y|Z]", make4(pos.Iff(0, []int{1, 2}), is(0, 1, 0, 2, 1, 2), nil, list, anyType, list)},
		{make4(yes, nil, nil, types.List(types.Int()), list), "X", "Y", make4(pos.And(pos.Var(0), pos.Var(1)), nil, nil, types.List(types.Int()), types.List(types.Int()))},
	} {
		if got := Unify(c.d, read(t, c.a), read(t, c.b)); got.Text() != c.want.Text() {
			t.Errorf("%d:\n%s\n%s", i, got.Text(), c.want.Text())
		}
	}
}

func TestUnifyWithoutSuccess(t *testing.T) {
	free := desc.Fresh(4)
	typed := desc.Make(4, pos.Const(true), nil, nil, []types.T{list, types.Int(), types.Fun("f", types.Int())})
	for i, c := range []struct {
		d    desc.D
		a, b string
	}{
		{free, "a", "b"}, {free, "a", "1"}, {free, "1", "2"}, {free, "f(X)", "g(X)"}, {free, "f(X)", "f(X,Y)"}, {free, "f(X,a)", "f(Y,b)"}, {free, "a", "f(X)"},
		{free, "X", "f(X)"}, {free, "f(Y,X)", "X"}, {desc.Bottom(4), "X", "X"},
		{typed, "X", "f(Y)"}, {typed, "Z", "f(a)"}, {typed, "Z", "g(Y)"},
	} {
		if got := Unify(c.d, read(t, c.a), read(t, c.b)); !got.IsBottom() || got.N() != 4 {
			t.Error(i, got.Text())
		}
	}
}

func TestBeyond(t *testing.T) {
	d := desc.Fresh(2)
	top := desc.Top(2).Text()
	for i, x := range []api.Term{term.V(2), term.V(-1), term.F("f", term.V(9)), term.V(1 << 62)} {
		if Unify(d, x, term.A("a")).Text() != top || Unify(d, term.A("a"), x).Text() != top || Builtin(d, term.F("var", x)).Text() != top || Return(d, []api.Term{x}, desc.Top(1)).Text() != top || Call(d, []api.Term{term.A("a"), x}).Text() != top {
			t.Error("places beyond n", i)
		}
	}
	for i, g := range []api.Term{term.A("p"), term.F("=", term.V(0)), term.V(0), term.I(1), {}, {Kind: api.Struct, Name: "!"}, {Kind: api.Atom, Name: "var", Args: []api.Term{term.V(0)}}, term.F("!", term.V(0)), term.F(",", term.V(0), term.V(1))} {
		if Builtin(d, g).Text() != top {
			t.Error("no builtin", i)
		}
	}
	if Builtin(desc.Bottom(2), term.A("p")).Text() != desc.Bottom(2).Text() || Unify(desc.Bottom(2), term.V(7), term.V(7)).Text() != desc.Bottom(2).Text() {
		t.Error("of bottom")
	}
	if Call(desc.Bottom(2), []api.Term{term.V(9)}).Text() != desc.Bottom(1).Text() || Return(desc.Bottom(2), nil, desc.Top(4)).Text() != desc.Bottom(2).Text() || Return(d, []api.Term{term.A("a")}, desc.Bottom(1)).Text() != desc.Bottom(2).Text() {
		t.Error("Call, Return of bottom")
	}
	if Return(d, []api.Term{term.A("a")}, desc.Top(2)).Text() != top {
		t.Error("of another number")
	}
	many := slices.Repeat([]api.Term{term.V(0)}, 63)
	if Call(d, many).Text() != desc.Top(63).Text() || Call(d, many[:62]).IsBottom() || Call(d, many[:62]).Text() == desc.Top(62).Text() || Return(d, many, desc.Top(63)).Text() != top {
		t.Error("more than 64 less n")
	}
	if Call(d, slices.Repeat(many, 3)).N() != 0 {
		t.Error("more than 64")
	}
}

func TestBuiltins(t *testing.T) {
	num, atoms := types.Int(), types.Atoms()
	both := types.Join(num, atoms)
	yes := pos.Const(true)
	// X and Y are paired, Z is free, W is a list.
	d := desc.Make(4, yes, is(0, 1, 0, 2), []int{2}, []types.T{anyType, anyType, anyType, list})
	sure := func(l ...int) pos.Func {
		f := yes
		for _, i := range l {
			f = pos.And(f, pos.Var(i))
		}
		return f
	}
	like := func(f pos.Func, of ...types.T) desc.D {
		return desc.Make(4, f, is(0, 1, 0, 2), []int{2}, append(of, []types.T{anyType, anyType, anyType, list}[len(of):]...))
	}
	bottom := desc.Bottom(4)
	for text, want := range map[string]desc.D{
		"true": d, "!": d, "fail": bottom, "X==Y": d, "X\\==Y": d, "X\\=Y": d, "X @< Y": d, "X @>= f(Z)": d,
		"X=Y": Unify(d, term.V(0), term.V(1)), "a=b": bottom,
		"X is Y+1": desc.Make(4, sure(0, 1), nil, nil, []types.T{num, anyType, anyType, list}), "1 is Y": like(sure(1)), "a is Y": bottom, "f(X) is Y": bottom, "X is Z": bottom, "Z is X": desc.Make(4, sure(0, 2), nil, nil, []types.T{anyType, anyType, num, list}),
		"X =:= Y": like(sure(0, 1)), "X < f(Y)": like(sure(0, 1)), "X > 1": like(sure(0)), "X =\\= Z": bottom, "1 =< Y": like(sure(1)), "Z >= 1": bottom,
		"var(X)": desc.Make(4, yes, is(0, 1, 0, 2), []int{0, 2}, []types.T{anyType, anyType, anyType, list}), "var(Z)": d, "var(W)": bottom, "var(a)": bottom, "var(f(X))": bottom,
		"nonvar(X)": d, "nonvar(Z)": bottom, "nonvar(a)": d, "nonvar(f(Z))": d,
		"atom(X)": like(sure(0), atoms), "atom(Z)": bottom, "atom(a)": d, "atom(1)": bottom, "atom(f(X))": bottom,
		"integer(X)": like(sure(0), num), "integer(Z)": bottom, "integer(1)": d, "integer(a)": bottom, "integer(f(X))": bottom,
		"atomic(X)": like(sure(0), both), "atomic(Z)": bottom, "atomic(1)": d, "atomic(a)": d, "atomic(f(X))": bottom,
		"compound(X)": d, "compound(Z)": bottom, "compound(1)": bottom, "compound(a)": bottom, "compound(f(Z))": d,
	} {
		if got := after(t, d, text); got.Text() != want.Text() {
			t.Errorf("%s:\n%s\n%s", text, got.Text(), want.Text())
		}
	}
}

func TestCallAndReturn(t *testing.T) {
	d := desc.Make(3, pos.Var(2), nil, []int{0, 1}, nil)
	args := []api.Term{term.F("f", term.V(0), term.V(2)), term.V(1), term.V(0), term.I(1)}
	c := Call(d, args)
	want := desc.Make(4, pos.And(pos.Iff(0, []int{2}), pos.Var(3)), is(0, 2), []int{1, 2}, []types.T{types.Fun("f", anyType, anyType), anyType, anyType, types.Int()})
	if c.Text() != want.Text() {
		t.Error("Call", c.Text())
	}
	// The second Arg becomes ground, the others stay.
	s := desc.Make(4, pos.And(pos.Var(1), pos.Var(3)), is(0, 2), []int{2}, []types.T{anyType, types.List(types.Int())})
	r := Return(d, args, s)
	if !r.Ground().Same(pos.And(pos.Var(1), pos.Var(2))) || len(r.Share()) != 0 || len(r.Free()) != 0 || r.Type(1).Text() != types.List(types.Int()).Text() {
		t.Error("Return", r.Text())
	}
	// X stays free, if what it is related to was free, and stays so.
	r = Return(d, []api.Term{term.V(0), term.V(1)}, desc.Make(2, pos.Const(true), is(0, 1), []int{0, 1}, nil))
	if !slices.Equal(r.Free(), []int{0, 1}) || !slices.Equal(r.Share(), is(0, 1)) {
		t.Error("free, and paired", r.Text())
	}
	r = Return(d, []api.Term{term.V(0), term.V(1)}, desc.Make(2, pos.Const(true), nil, []int{0}, nil))
	if !slices.Equal(r.Free(), []int{0}) || len(r.Share()) != 0 {
		t.Error("free no more", r.Text())
	}
	if !Return(d, []api.Term{term.V(0)}, desc.Bottom(1)).IsBottom() {
		t.Error("without success")
	}
	if r := Return(d, nil, desc.Top(0)); r.Text() != d.Text() {
		t.Error("of no Args", r.Text())
	}
}

// next is a small generator of numbers: the tests are the same each time.
type next uint32

func (n *next) below(m int) int {
	*n = *n*1664525 + 1013904223
	return int(*n>>16) % m
}

func (n *next) term(depth, vars int) api.Term {
	switch k := n.below(9); {
	case k < 4:
		return term.V(int64(n.below(vars)))
	case k < 6 || depth == 0:
		return []api.Term{term.A("a"), term.I(int64(n.below(2))), term.A("[]")}[n.below(3)]
	case k < 8:
		return term.F(".", n.term(depth-1, vars), n.term(depth-1, vars))
	}
	return term.F("f", n.term(depth-1, vars))
}

// desc is some description of terms: what is true of them, and then with less known.
func (n *next) desc(l []api.Term) desc.D {
	var free []int
	var share [][2]int
	var of []types.T
	ground := pos.Const(true)
	for i, t := range l {
		if t.Kind == api.Var && n.below(4) > 0 {
			free = append(free, i)
		}
		if term.Ground(t) && n.below(4) > 0 {
			ground = pos.And(ground, pos.Var(i))
		}
		for j := range i {
			common := slices.ContainsFunc(term.Vars(t), func(v int64) bool { return slices.Contains(term.Vars(l[j]), v) })
			if common || n.below(5) == 0 {
				share = append(share, [2]int{i, j})
			}
			for _, f := range []pos.Func{pos.Iff(i, []int{j}), pos.Or(pos.Var(i), pos.Var(j)), pos.Iff(j, []int{i})} {
				if desc.Make(len(l), f, desc.Top(len(l)).Share(), nil, nil).In(l) && n.below(3) > 0 {
					ground = pos.And(ground, f)
				}
			}
		}
		best := anyType
		for _, x := range []types.T{types.Of(t, nil), list, types.List(types.Int()), types.Join(types.Int(), types.Atoms())} {
			if x.Member(t) && n.below(2) == 0 {
				best = x
			}
		}
		of = append(of, best)
	}
	return desc.Make(len(l), ground, share, free, of)
}

// with is a term with terms for its places.
func with(t api.Term, l []api.Term) api.Term {
	if t.Kind == api.Var {
		return l[t.N]
	}
	args := make([]api.Term, len(t.Args))
	for i, a := range t.Args {
		args[i] = with(a, l)
	}
	t.Args = args
	return t
}

func withAll(l, by []api.Term) []api.Term {
	var r []api.Term
	for _, t := range l {
		r = append(r, with(t, by))
	}
	return r
}

func applied(s *subst.Subst, l []api.Term) []api.Term {
	var r []api.Term
	for _, t := range l {
		x, _ := s.Apply(t)
		r = append(r, x)
	}
	return r
}

func TestWhatIsUnifiedIsDescribed(t *testing.T) {
	n := next(7)
	succeeded := 0
	for range 5000 {
		l := []api.Term{n.term(2, 4), n.term(2, 4), n.term(2, 4)}
		d := n.desc(l)
		if !d.In(l) {
			t.Fatal("the test's description", l, d.Text())
		}
		a, b := n.term(2, 3), n.term(2, 3)
		s, ok, _ := unify.Unify(subst.New(), with(a, l), with(b, l))
		if !ok {
			continue
		}
		succeeded++
		if r := Unify(d, a, b); !r.In(applied(s, l)) {
			t.Fatalf("%v\n%s\n%v = %v\n%s", l, d.Text(), a, b, r.Text())
		}
	}
	if succeeded < 500 {
		t.Error("too few succeed", succeeded)
	}
}

func TestWhatBuiltinsDoIsDescribed(t *testing.T) {
	n := next(8)
	names := []string{"=", "\\=", "==", "\\==", "is", "=:=", "<", "@<", "var", "nonvar", "atom", "integer", "atomic", "compound"}
	succeeded := map[string]int{}
	for range 15000 {
		l := []api.Term{n.term(1, 4), n.term(1, 4), n.term(1, 4)}
		d := n.desc(l)
		i := n.below(len(names))
		g := term.F(names[i], n.term(1, 3))
		if i < 8 {
			g.Args = append(g.Args, n.term(1, 3))
		}
		s, ok, _ := builtin.Do(subst.New(), with(g, l))
		if !ok {
			continue
		}
		succeeded[names[i]]++
		if r := Builtin(d, g); !r.In(applied(s, l)) {
			t.Fatalf("%v\n%s\n%v\n%s", l, d.Text(), g, r.Text())
		}
	}
	if len(succeeded) != len(names) {
		t.Error("too few succeed", succeeded)
	}
}

func TestWhatIsCalledIsDescribed(t *testing.T) {
	n := next(9)
	bound := 0
	for range 5000 {
		l := []api.Term{n.term(2, 4), n.term(2, 4), n.term(2, 4), n.term(1, 4)}
		d := n.desc(l)
		args := []api.Term{n.term(2, 4), n.term(1, 4)}[:n.below(3)]
		called := withAll(args, l)
		if c := Call(d, args); !c.In(called) {
			t.Fatalf("Call\n%v\n%s\n%v\n%s", l, d.Text(), args, c.Text())
		}
		s := subst.New()
		for _, v := range term.Vars(called...) {
			if n.below(2) == 0 {
				to := n.term(1, 4)
				// Only variables of the Args may be bound, to terms of these and of new ones.
				for i, w := range term.Vars(to) {
					if !slices.Contains(term.Vars(called...), w) {
						to = with(to, []api.Term{term.V(10 + int64(i)), term.V(11), term.V(12), term.V(13)})
						break
					}
				}
				s.Bind(v, to)
				bound++
			}
		}
		out := applied(s, called)
		success := n.desc(out)
		if r := Return(d, args, success); !r.In(applied(s, l)) {
			t.Fatalf("Return\n%v\n%s\n%v\n%v\n%s\n%s", l, d.Text(), args, out, success.Text(), r.Text())
		}
	}
	if bound < 1000 {
		t.Error("too few are bound", bound)
	}
}

func TestAnyTermEnds(t *testing.T) {
	deep := term.A("[]")
	for range 1 << 13 {
		deep = api.Term{Kind: api.Struct, Name: "f", Args: []api.Term{deep}}
	}
	d := desc.Fresh(2)
	odd := []api.Term{deep, {}, {Kind: 9, Args: []api.Term{term.V(1)}}, {Kind: api.Struct, Name: "f"}, term.V(0)}
	for _, a := range odd {
		for _, b := range odd {
			Unify(d, a, b)
			Builtin(d, term.F("=", a, b))
			Builtin(d, term.F("is", a, b))
			Return(d, []api.Term{a, b}, Call(d, []api.Term{a, b}))
		}
	}
}
