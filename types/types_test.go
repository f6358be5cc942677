package types

import (
	"slices"
	"testing"

	"resolvent/api"
	"resolvent/term"
)

func same(a, b T) bool { return a.Text() == b.Text() }

var nilType = Atoms("[]")

func cell(h, t T) T { return Fun(".", h, t) }

func all(l ...T) T {
	r := T{}
	for _, t := range l {
		r = Join(r, t)
	}
	return r
}

// list is the term of a list.
func list(rest api.Term, l ...api.Term) api.Term {
	for i := len(l) - 1; i >= 0; i-- {
		rest = term.F(".", l[i], rest)
	}
	return rest
}

var (
	empty  = term.A("[]")
	one, a = term.I(1), term.A("a")
	sample = []api.Term{term.V(0), one, term.I(-5), a, term.A("b"), term.A("c"), empty, list(empty, one), list(empty, a), list(empty, one, a), list(a, one), list(term.V(0), one), list(empty, term.V(0)), term.F("f", a), term.F("f", one), term.F("f", term.V(1)), term.F("f", one, a), term.F("g", list(empty, one)), term.F("f", term.F("f", term.F("f", term.F("f", a)))), term.F("f", term.F("f", term.F("f", one))), list(empty, list(empty, one), empty), list(list(empty, one), a)}
)

func TestExamples(t *testing.T) {
	if j := Join(nilType, Of(list(empty, one), nil)); !same(j, List(Int())) {
		t.Error("[], .(1, [])", j.Text())
	}
	if j := Join(List(Int()), cell(Atoms("a"), Any())); !same(j, all(nilType, cell(all(Int(), Atoms("a")), Any()))) || !j.Member(list(one, a)) || !j.Member(empty) || j.Member(one) {
		t.Error("lists of numbers, .(a, any)", j.Text())
	}
	if j := all(Atoms("a"), Atoms("b"), Atoms("c"), Atoms("d"), Atoms("e")); !same(j, Atoms()) {
		t.Error("five atoms", j.Text())
	}
	if x := Of(term.F("f", term.F("f", term.F("f", term.F("f", a)))), nil); !same(x, Fun("f", Fun("f", Fun("f", Any())))) {
		t.Error("f(f(f(f(a))))", x.Text())
	}
}

func TestMade(t *testing.T) {
	for i, c := range []struct {
		of      T
		members []int
	}{
		{T{}, nil},
		{Int(), []int{1, 2}},
		{Atoms(), []int{3, 4, 5, 6}},
		{Atoms("a", "c", "a"), []int{3, 5}},
		{Atoms("a", "b", "c", "d", "e"), []int{3, 4, 5, 6}},
		{Fun("a"), []int{3}},
		{Fun("f", Int()), []int{14}},
		{Fun("f", Any()), []int{13, 14, 15, 18, 19}},
		{Fun("f", Int(), Atoms()), []int{16}},
		{List(Int()), []int{6, 7}},
		{List(Any()), []int{6, 7, 8, 9, 12, 20, 21}},
		{List(List(Int())), []int{6, 20}},
		{cell(Int(), nilType), []int{7}},
		{List(T{}), []int{6}},
	} {
		var l []int
		for j, x := range sample {
			if c.of.Member(x) {
				l = append(l, j)
			}
		}
		if !slices.Equal(l, c.members) {
			t.Error(i, c.of.Text(), l)
		}
	}
	for _, x := range append([]api.Term{{}, {Kind: 9}}, sample...) {
		if !Any().Member(x) {
			t.Error("any has not", x)
		}
	}
}

func TestDepth(t *testing.T) {
	if !same(List(List(List(List(Int())))), List(List(List(Any())))) || !same(List(List(List(Int()))), List(List(List(Int())))) {
		t.Error("List is not capped")
	}
	if same(List(List(List(Int()))), List(List(List(Any())))) {
		t.Error("List is capped too soon")
	}
	if x := Fun("f", Int(), List(Fun("g", Fun("h", Any()), Int()))); !same(x, Fun("f", Int(), List(Fun("g", Any(), Int())))) {
		t.Error("Fun", x.Text())
	}
}

func TestJoin(t *testing.T) {
	for i, c := range []struct{ a, b, want T }{
		{Any(), Int(), Any()},
		{T{}, Int(), Int()},
		{T{}, T{}, T{}},
		{Atoms(), Atoms("a"), Atoms()},
		{Atoms("b"), Atoms("a"), Atoms("a", "b")},
		{Fun("f", Int()), Fun("f", Atoms("a")), Fun("f", all(Int(), Atoms("a")))},
		{List(Int()), List(Atoms("a")), List(all(Int(), Atoms("a")))},
		{List(Int()), nilType, List(Int())},
		{List(Int()), Atoms("a"), all(Atoms("a"), List(Int()))},
		{cell(Int(), nilType), cell(Atoms("a"), nilType), cell(all(Int(), Atoms("a")), nilType)},
		{cell(Int(), List(Atoms("a"))), nilType, List(all(Int(), Atoms("a")))},
		{cell(Int(), List(Atoms("a"))), List(Int()), List(all(Int(), Atoms("a")))},
		{cell(Int(), nilType), List(Atoms("a")), List(all(Int(), Atoms("a")))},
		{cell(Int(), nilType), all(cell(Int(), Any()), nilType), all(nilType, cell(Int(), Any()))},
		{nilType, cell(Int(), Any()), all(cell(Int(), Any()), nilType)},
		{cell(Int(), Any()), cell(Atoms("a"), nilType), cell(all(Int(), Atoms("a")), Any())},
		{Atoms("a", "b", "c", "[]"), cell(Int(), nilType), all(Atoms("a", "b", "c"), List(Int()))},
		{all(Fun("a", Int()), Fun("b", Int())), all(Fun("c", Int()), Fun("a", Int(), Int())), all(Fun("a", Int(), Int()), Fun("b", Int()), Fun("c", Int()), Fun("a", Int()))},
		{all(Fun("a", Int()), Fun("b", Int())), all(Fun("c", Int()), Fun("d", Int()), Fun("a", Int(), Int())), Any()},
		{all(Fun("a", Int()), Fun("b", Int()), Fun("c", Int()), Fun("d", Int())), List(Int()), all(List(Int()), Fun("a", Int()), Fun("b", Int()), Fun("c", Int()), Fun("d", Int()))},
	} {
		if got := Join(c.a, c.b); !same(got, c.want) {
			t.Error(i, got.Text())
		}
		if got := Join(c.b, c.a); !same(got, c.want) {
			t.Error(i, "turned", got.Text())
		}
	}
	wide := all(Atoms("a", "b", "c", "d"), Int())
	if wide.Member(term.A("x")) || !Join(wide, Atoms("e")).Member(term.A("x")) {
		t.Error("MaxWidth names")
	}
}

func TestIncludedAndMeet(t *testing.T) {
	l := []T{T{}, Any(), Int(), Atoms(), Atoms("a"), nilType, List(Int()), List(Any()), cell(Int(), nilType), cell(Int(), List(Int())), cell(Int(), Any()), all(nilType, cell(Any(), Any())), all(Atoms(), cell(Int(), Any())), Fun("f", Int()), Fun("f", Any()), Fun("f", Int(), Int())}
	want := map[int][]int{
		0: {0, 1, 2, 3, 4, 5, 6, 7, 8, 9, 10, 11, 12, 13, 14, 15}, 1: {1}, 2: {1, 2}, 3: {1, 3, 12}, 4: {1, 3, 4, 12}, 5: {1, 3, 5, 6, 7, 11, 12},
		6: {1, 6, 7, 11, 12}, 7: {1, 7, 11}, 8: {1, 6, 7, 8, 9, 10, 11, 12}, 9: {1, 6, 7, 9, 10, 11, 12}, 10: {1, 10, 11, 12}, 11: {1, 11}, 12: {1, 12},
		13: {1, 13, 14}, 14: {1, 14}, 15: {1, 15},
	}
	for i, x := range l {
		for j, y := range l {
			is := slices.Contains(want[i], j)
			if Included(x, y) != is {
				t.Error("Included", x.Text(), y.Text())
			}
			m := x
			if !is && slices.Contains(want[j], i) {
				m = y
			}
			if !same(Meet(x, y), m) {
				t.Error("Meet", x.Text(), y.Text())
			}
		}
	}
}

func TestAsked(t *testing.T) {
	if !(T{}).Empty() || Fun("f", T{}).Empty() || Any().Empty() || Int().Empty() || Atoms().Empty() || List(T{}).Empty() || nilType.Empty() {
		t.Error("Empty")
	}
	if Any().Nonvar() || !(T{}).Nonvar() || !List(Any()).Nonvar() {
		t.Error("Nonvar")
	}
	if Any().Ground() || List(Any()).Ground() || Fun("f", Int(), Fun("g", Any())).Ground() || !List(Fun("f", Int(), Atoms())).Ground() || !(T{}).Ground() || !Atoms().Ground() {
		t.Error("Ground")
	}
}

func TestArg(t *testing.T) {
	x := all(Fun("f", Int(), Any()), List(Atoms("a")))
	for i, c := range []struct {
		of       T
		name     string
		arity, i int
		want     T
		ok       bool
	}{
		{x, "f", 2, 0, Int(), true}, {x, "f", 2, 1, Any(), true}, {x, "f", 2, 2, T{}, false}, {x, "f", 2, -1, T{}, false}, {x, "f", 1, 0, T{}, false}, {x, "g", 2, 0, T{}, false},
		{x, ".", 2, 0, Atoms("a"), true}, {x, ".", 2, 1, List(Atoms("a")), true}, {x, ".", 2, 2, T{}, false}, {x, "[]", 0, 0, T{}, false},
		{Any(), "h", 3, 2, Any(), true}, {Any(), "h", 3, 3, T{}, false}, {Any(), "h", 3, -1, T{}, false}, {Any(), "h", 0, 0, T{}, false}, {Int(), "f", 1, 0, T{}, false},
	} {
		if got, ok := c.of.Arg(c.name, c.arity, c.i); ok != c.ok || !same(got, c.want) {
			t.Error(i, got.Text(), ok)
		}
	}
}

func TestOf(t *testing.T) {
	env := []T{Int(), List(Int())}
	for i, c := range []struct {
		t    api.Term
		want T
	}{
		{term.V(0), Int()}, {term.V(1), List(Int())}, {term.V(2), Any()}, {term.V(-1), Any()}, {one, Int()}, {a, Atoms("a")},
		{term.F("f", term.V(1), a), Fun("f", List(Int()), Atoms("a"))},
		{list(term.V(1), term.V(0)), cell(Int(), List(Int()))},
		{list(empty, one, one, one, one), cell(Int(), cell(Int(), cell(Int(), Any())))},
		{term.F("f", term.F("f", term.F("f", term.V(1)))), Fun("f", Fun("f", Fun("f", Any())))},
		{api.Term{}, Any()}, {api.Term{Kind: api.Struct, Name: "f"}, Atoms("f")},
	} {
		if got := Of(c.t, env); !same(got, c.want) {
			t.Error(i, got.Text())
		}
	}
}

// next is a small generator of numbers: the tests are the same each time.
type next uint32

func (n *next) below(m int) int {
	*n = *n*1664525 + 1013904223
	return int(*n>>16) % m
}

// a type, of joins of a depth.
func (n *next) typ(depth int) T {
	switch k := n.below(11); {
	case k == 0:
		return Any()
	case k == 1:
		return T{}
	case k == 2:
		return Atoms()
	case k < 5 || depth == 0:
		return []T{Int(), nilType, Atoms("a"), Atoms("a", "b")}[n.below(4)]
	case k == 5:
		return List(n.typ(depth - 1))
	case k == 6:
		return cell(n.typ(depth-1), n.typ(depth-1))
	case k == 7:
		return Fun("f", n.typ(depth-1))
	case k == 8:
		return Fun("f", n.typ(depth-1), n.typ(depth-1))
	}
	return Join(n.typ(depth-1), n.typ(depth-1))
}

func (n *next) term(depth int) api.Term {
	switch k := n.below(9); {
	case k == 0:
		return term.V(int64(n.below(2)))
	case k < 4 || depth == 0:
		return []api.Term{one, a, empty, term.A("b")}[n.below(4)]
	case k < 7:
		return term.F(".", n.term(depth-1), n.term(depth-1))
	case k == 7:
		return term.F("f", n.term(depth-1))
	}
	return term.F("f", n.term(depth-1), n.term(depth-1))
}

func bind(t api.Term, to api.Term) api.Term {
	if t.Kind == api.Var {
		return to
	}
	args := make([]api.Term, len(t.Args))
	for i, x := range t.Args {
		args[i] = bind(x, to)
	}
	t.Args = args
	return t
}

func TestWhatFollows(t *testing.T) {
	n := next(4)
	included := 0
	for range 4000 {
		x, y := n.typ(3), n.typ(3)
		j := Join(x, y)
		if !Included(x, j) || !Included(y, j) || !Included(x, x) || !same(Join(x, y), Join(y, x)) {
			t.Fatal("Join", x.Text(), y.Text(), j.Text())
		}
		is := Included(x, y)
		if is {
			included++
		}
		m := Meet(x, y)
		for range 20 {
			z := n.term(4)
			if (x.Member(z) || y.Member(z)) && !j.Member(z) || is && x.Member(z) && !y.Member(z) || x.Member(z) && y.Member(z) && !m.Member(z) {
				t.Fatal("Member", x.Text(), y.Text(), z)
			}
			if x.Member(z) && !x.Member(bind(z, n.term(1))) {
				t.Fatal("a term goes from a type", x.Text(), z)
			}
			if x.Member(z) && (x.Nonvar() && z.Kind == api.Var || x.Ground() && !term.Ground(z)) {
				t.Fatal("a type that is not any, that is ground", x.Text(), z)
			}
			if !Of(z, nil).Member(z) {
				t.Fatal("Of", z)
			}
			if e := n.term(1); x.Member(e) && !Of(z, []T{x, x}).Member(bind(z, e)) {
				t.Fatal("Of with what variables are", x.Text(), z, e)
			}
		}
	}
	if included < 200 {
		t.Error("too few", included)
	}
}

func TestText(t *testing.T) {
	f := func(l ...T) T { return Fun("f", l...) }
	l := []T{T{}, Any(), Int(), Atoms(), Atoms("a"), Atoms("b"), Atoms("a", "b"), Atoms("number"), Atoms("a|b"), all(Int(), Atoms("a")), all(Int(), Atoms()), f(Int()), f(Any()), f(Int(), Int()), f(f(Int())), Fun("g", Int()), Fun("f(", Int()),
		List(Int()), List(Any()), List(T{}), List(List(Int())), Fun("list", Int()), all(List(Int()), Int()), all(List(Int()), f(Int())), cell(Int(), Any()), nilType, all(nilType, cell(Int(), Any())), all(f(Int()), f(Int(), Int())), all(f(Int()), Atoms("f"))}
	for i, x := range l {
		for j, y := range l {
			if (x.Text() == y.Text()) != (i == j) {
				t.Error("Text", x.Text(), y.Text())
			}
		}
	}
	four := all(f(Int()), Fun("g", Int()), Fun("h", Int()), Fun("k", Int()))
	if four.Member(one) || !four.Member(term.F("k", one)) || !Join(four, Fun("m", Int())).Member(one) {
		t.Error("MaxWidth structures", four.Text())
	}
}

func TestArgumentsStay(t *testing.T) {
	names := []string{"c", "a", "b", "a"}
	x := Atoms(names[:2]...)
	args := []T{Int(), Any()}
	y := Fun("f", args...)
	names[0], args[0] = "z", Any()
	if !same(x, Atoms("a", "c")) || !same(y, Fun("f", Int(), Any())) || names[2] != "b" {
		t.Error("changed")
	}
	before := y.Text()
	z, _ := y.Arg("f", 2, 0)
	Join(y, Fun("f", Atoms("q"), Int()))
	Join(z, Any())
	if y.Text() != before {
		t.Error("a join changed what it joined")
	}
}

func TestAnyTermEnds(t *testing.T) {
	deep := empty
	for range 1 << 16 {
		deep = api.Term{Kind: api.Struct, Name: ".", Args: []api.Term{one, deep}}
	}
	if !List(Int()).Member(deep) || !Of(deep, nil).Member(deep) || Atoms().Member(api.Term{}) || Fun("f", Any()).Member(api.Term{Kind: api.Struct, Name: "f"}) {
		t.Error("Member")
	}
}
