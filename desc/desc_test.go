package desc

import (
	"slices"
	"testing"

	"resolvent/api"
	"resolvent/pos"
	"resolvent/term"
	"resolvent/types"
)

var (
	x, y, z = term.V(0), term.V(1), term.V(2)
	one, a  = term.I(1), term.A("a")
)

func f(l ...api.Term) api.Term { return term.F("f", l...) }

func is(l ...int) [][2]int {
	var r [][2]int
	for i := 0; i+1 < len(l); i += 2 {
		r = append(r, [2]int{l[i], l[i+1]})
	}
	return r
}

func in(d D, l ...api.Term) bool { return d.In(l) }

func TestExamples(t *testing.T) {
	if !in(Top(2), f(x), x) || !in(Fresh(2), x, y) || in(Fresh(2), x, x) {
		t.Error("Top, Fresh")
	}
	e := Entry([]uint8{api.ModeInt, api.ModeFree})
	if !in(e, one, x) || !in(Entry([]uint8{api.ModeAny, api.ModeAny}), x, x) || in(Entry([]uint8{api.ModeAny, api.ModeFree}), f(x), x) {
		t.Error("Entry")
	}
}

func TestMake(t *testing.T) {
	d := Make(3, pos.Const(true), is(2, 0, 1, 1, 5, 0, 0, 1, -1, 2), []int{2, 7, -1, 2}, []types.T{types.Int(), types.List(types.Any()), types.Any(), types.Int()})
	if d.N() != 3 || d.IsBottom() || !d.Ground().Same(pos.Var(0)) || len(d.Share()) != 0 || !slices.Equal(d.Free(), []int{2}) {
		t.Error("in form", d.Text())
	}
	if d.Type(0).Text() != types.Int().Text() || d.Type(1).Text() != types.List(types.Any()).Text() || d.Type(2).Text() != types.Any().Text() || !d.Type(3).Empty() || !d.Type(-1).Empty() {
		t.Error("types")
	}
	d = Make(4, pos.And(pos.Var(1), pos.Iff(2, []int{1})), is(0, 3, 0, 1, 2, 3), nil, nil)
	if !slices.Equal(d.Share(), is(0, 3)) || d.Type(3).Text() != "any" {
		t.Error("what is sure to be ground is not paired", d.Text())
	}
	if !Make(2, pos.Var(2), nil, nil, nil).Ground().Same(pos.Const(true)) || !Make(2, pos.And(pos.Var(1), pos.Iff(0, []int{5})), nil, nil, nil).Ground().Same(pos.Const(true)) {
		t.Error("ground of variables beyond n")
	}
	for i, b := range []D{
		Make(2, pos.Const(false), is(0, 1), nil, nil), Make(2, pos.Var(1), nil, []int{1}, nil), Make(2, pos.Const(true), nil, []int{0}, []types.T{types.Atoms()}),
		Make(2, pos.Iff(0, []int{1}), nil, []int{0}, []types.T{types.Any(), types.Int()}), Bottom(2), Make(2, pos.Const(true), nil, []int{1}, []types.T{types.Any(), types.List(types.Any())}),
	} {
		if !b.IsBottom() || b.N() != 2 || b.Text() != Bottom(2).Text() || !b.Ground().Same(pos.Const(false)) || len(b.Share())+len(b.Free()) != 0 || !b.Type(0).Empty() || in(b, one, one) {
			t.Error("bottom", i, b.Text())
		}
	}
	for _, n := range []int{-1, 65, 1 << 40} {
		if Make(n, pos.Const(true), nil, nil, nil).N() != 0 || Top(n).N() != 0 || Fresh(n).N() != 0 || Bottom(n).N() != 0 {
			t.Error("n", n)
		}
	}
	if Top(64).N() != 64 || len(Top(64).Share()) != 64*63/2 || Entry(make([]uint8, 70)).N() != 0 || Entry(make([]uint8, 64)).N() != 64 {
		t.Error("64 places")
	}
	if len(Entry(make([]uint8, 64)).Share()) != 64*63/2 {
		t.Error("64 modes")
	}
	if !(D{}).IsBottom() || (D{}).N() != 0 {
		t.Error("the zero one")
	}
}

func TestOthers(t *testing.T) {
	d := Top(3)
	if d.Ground().Size() != 0 || !slices.Equal(d.Share(), is(0, 1, 0, 2, 1, 2)) || len(d.Free()) != 0 || d.Type(2).Text() != "any" {
		t.Error("Top", d.Text())
	}
	d = Fresh(3)
	if d.Ground().Size() != 0 || len(d.Share()) != 0 || !slices.Equal(d.Free(), []int{0, 1, 2}) || d.Type(0).Text() != "any" {
		t.Error("Fresh", d.Text())
	}
	d = Entry([]uint8{api.ModeAny, api.ModeGround, api.ModeFree, api.ModeInt, api.ModeAtom, 77, api.ModeAny})
	want := pos.And(pos.Var(1), pos.And(pos.Var(3), pos.Var(4)))
	if !d.Ground().Same(want) || !slices.Equal(d.Share(), is(0, 5, 0, 6, 5, 6)) || !slices.Equal(d.Free(), []int{2}) || d.Type(1).Text() != "any" || d.Type(3).Text() != types.Int().Text() || d.Type(4).Text() != types.Atoms().Text() {
		t.Error("Entry", d.Text())
	}
}

func TestIn(t *testing.T) {
	g := func(h pos.Func) D { return Make(3, h, is(0, 1, 0, 2, 1, 2), nil, nil) }
	for i, c := range []struct {
		d    D
		l    []api.Term
		want bool
	}{
		{Top(2), []api.Term{x}, false}, {Top(2), []api.Term{x, x, x}, false}, {Top(0), nil, true}, {Bottom(0), nil, false},
		{g(pos.Var(0)), []api.Term{a, x, y}, true}, {g(pos.Var(0)), []api.Term{f(x), x, y}, false},
		{g(pos.Iff(0, []int{1, 2})), []api.Term{f(x, y), x, y}, true}, {g(pos.Iff(0, []int{1, 2})), []api.Term{f(x, z), x, y}, false}, {g(pos.Iff(0, []int{1, 2})), []api.Term{x, x, a}, true},
		{g(pos.Or(pos.Var(1), pos.Var(2))), []api.Term{x, a, x}, true}, {g(pos.Or(pos.Var(1), pos.Var(2))), []api.Term{a, x, x}, false},
		{Make(3, pos.Const(true), is(0, 2), nil, nil), []api.Term{f(x), y, g2(x)}, true}, {Make(3, pos.Const(true), is(0, 2), nil, nil), []api.Term{f(x), x, a}, false},
		{Make(2, pos.Const(true), is(0, 1), []int{0}, nil), []api.Term{x, f(x)}, true}, {Make(2, pos.Const(true), is(0, 1), []int{0}, nil), []api.Term{a, f(x)}, false},
		{Make(1, pos.Const(true), nil, nil, []types.T{types.List(types.Any())}), []api.Term{term.F(".", x, term.A("[]"))}, true},
		{Make(1, pos.Const(true), nil, nil, []types.T{types.List(types.Any())}), []api.Term{x}, false},
		{Make(2, pos.Const(true), nil, nil, []types.T{types.Int()}), []api.Term{a, x}, false},
		{Fresh(2), []api.Term{term.V(-5), term.V(-6)}, true}, {Fresh(2), []api.Term{term.V(-5), term.V(-5)}, false},
		{Top(2), []api.Term{{}, {Kind: 9, Args: []api.Term{x}}}, true}, {Fresh(1), []api.Term{{}}, false},
	} {
		if got := c.d.In(c.l); got != c.want {
			t.Error(i, got)
		}
	}
}

func g2(l ...api.Term) api.Term { return term.F("g", l...) }

func TestJoinAndLeq(t *testing.T) {
	p := Make(3, pos.Var(0), is(1, 2), []int{1, 2}, []types.T{types.Int()})
	q := Make(3, pos.Iff(0, []int{1}), is(0, 1), []int{2}, []types.T{types.Any(), types.List(types.Any())})
	j := Join(p, q)
	if !j.Ground().Same(pos.Or(pos.Var(0), pos.Iff(0, []int{1}))) || !slices.Equal(j.Share(), is(0, 1, 1, 2)) || !slices.Equal(j.Free(), []int{2}) || j.Type(0).Text() != "any" || j.Type(1).Text() != "any" {
		t.Error("Join", j.Text())
	}
	if k := Join(Entry([]uint8{3}), Entry([]uint8{4})); k.Type(0).Text() != types.Join(types.Int(), types.Atoms()).Text() || !k.Ground().Same(pos.Var(0)) {
		t.Error("Join of types", k.Text())
	}
	if Join(p, Bottom(3)).Text() != p.Text() || Join(Bottom(3), p).Text() != p.Text() || Join(p, Top(2)).Text() != Top(3).Text() || Join(Bottom(2), p).Text() != Top(2).Text() || !Join(Bottom(3), Bottom(3)).IsBottom() {
		t.Error("Join with bottom, of unlike numbers")
	}
	for i, c := range []struct {
		a, b D
		want bool
	}{
		{p, p, true}, {p, j, true}, {q, j, true}, {j, p, false}, {p, Top(3), true}, {Top(3), p, false}, {p, Top(2), false}, {Make(3, pos.Const(true), nil, nil, nil), Top(2), false}, {Top(2), Top(3), false}, {Bottom(2), p, true}, {p, Bottom(3), false}, {Bottom(3), Bottom(2), true},
		{Fresh(2), Top(2), true}, {Top(2), Fresh(2), false}, {Make(2, pos.Const(true), is(0, 1), nil, nil), Make(2, pos.Const(true), nil, nil, nil), false},
		{Make(2, pos.Const(true), nil, nil, nil), Make(2, pos.Const(true), nil, []int{1}, nil), false}, {Make(1, pos.Var(0), nil, nil, nil), Entry([]uint8{3}), false}, {Entry([]uint8{3}), Make(1, pos.Var(0), nil, nil, nil), true},
		{Make(2, pos.And(pos.Var(0), pos.Var(1)), nil, nil, nil), Make(2, pos.Iff(0, []int{1}), nil, nil, nil), true}, {Make(2, pos.Iff(0, []int{1}), nil, nil, nil), Make(2, pos.Var(0), nil, nil, nil), false},
	} {
		if Leq(c.a, c.b) != c.want {
			t.Error("Leq", i)
		}
	}
}

func TestProject(t *testing.T) {
	d := Make(4, pos.And(pos.Iff(0, []int{1, 2}), pos.Var(2)), is(0, 1, 1, 3), []int{3}, []types.T{types.List(types.Any())})
	p := d.Project([]int{3, 0, 1})
	if p.N() != 3 || !p.Ground().Same(pos.Iff(1, []int{2})) || !slices.Equal(p.Share(), is(0, 2, 1, 2)) || !slices.Equal(p.Free(), []int{0}) || p.Type(1).Text() != types.List(types.Any()).Text() {
		t.Error("in another order", p.Text())
	}
	p = d.Project([]int{3, 2, 3, 1, 2})
	want := pos.And(pos.Iff(2, []int{0}), pos.And(pos.Var(1), pos.Var(4)))
	if !p.Ground().Same(want) || !slices.Equal(p.Share(), is(0, 2, 0, 3, 2, 3)) || !slices.Equal(p.Free(), []int{0, 2}) {
		t.Error("a place twice", p.Text())
	}
	if p = d.Project([]int{3, 0, 3}); !slices.Equal(p.Share(), is(0, 2)) {
		t.Error("a place twice, and one that is apart", p.Text())
	}
	p = d.Project([]int{2, 9, 1, -1, 4})
	if !p.Ground().Same(pos.Var(0)) || !slices.Equal(p.Share(), is(1, 2, 1, 3, 1, 4, 2, 3, 2, 4, 3, 4)) || len(p.Free()) != 0 || p.Type(1).Text() != "any" {
		t.Error("beyond n", p.Text())
	}
	if p := d.Project(nil); p.N() != 0 || p.IsBottom() {
		t.Error("to none")
	}
	if p := Bottom(4).Project([]int{0, 7}); p.N() != 2 || !p.IsBottom() {
		t.Error("of bottom")
	}
	if p := d.Project(make([]int, 65)); p.N() != 0 {
		t.Error("to more than 64")
	}
	if p := d.Project(make([]int, 64)); p.N() != 64 || !in(p, slices.Repeat([]api.Term{term.A("[]")}, 64)...) {
		t.Error("to 64", p.Text())
	}
}

func TestTextAndMemory(t *testing.T) {
	all := []D{Top(2), Fresh(2), Bottom(2), Top(3), Entry([]uint8{1, 0}), Entry([]uint8{3, 0}), Entry([]uint8{0, 1}), Make(2, pos.Iff(0, []int{1}), nil, nil, nil), Make(2, pos.Const(true), nil, []int{0}, nil), Make(2, pos.Const(true), nil, nil, nil), Bottom(3),
		Make(3, pos.Const(true), is(0, 2), nil, nil), Make(3, pos.Const(true), is(1, 2), nil, nil), Make(3, pos.Const(true), is(0, 1), nil, nil), Make(3, pos.Const(true), nil, []int{1}, nil), Make(3, pos.Const(true), nil, []int{2}, nil)}
	for i, p := range all {
		for j, q := range all {
			if (p.Text() == q.Text()) != (i == j) {
				t.Error("Text", p.Text(), q.Text())
			}
		}
	}
	d := Make(3, pos.Const(true), is(0, 1), []int{2}, nil)
	d.Share()[0] = [2]int{1, 2}
	d.Free()[0] = 0
	share, free := is(5, 0, 1, 0), []int{2, 1}
	Make(3, pos.Const(true), share, free, nil)
	if !slices.Equal(d.Share(), is(0, 1)) || !slices.Equal(d.Free(), []int{2}) || share[1] != [2]int{1, 0} || free[0] != 2 {
		t.Error("memory is shared")
	}
}

// next is a small generator of numbers: the tests are the same each time.
type next uint32

func (n *next) below(m int) int {
	*n = *n*1664525 + 1013904223
	return int(*n>>16) % m
}

func (n *next) term(depth int) api.Term {
	switch k := n.below(8); {
	case k < 3:
		return term.V(int64(n.below(4)))
	case k < 6 || depth == 0:
		return []api.Term{a, one, term.A("[]")}[n.below(3)]
	case k == 6:
		return term.F(".", n.term(depth-1), n.term(depth-1))
	}
	return f(n.term(depth - 1))
}

func (n *next) desc(size int) D {
	ground := pos.Const(true)
	var share [][2]int
	var free []int
	var of []types.T
	for i := range size {
		if n.below(3) == 0 {
			ground = pos.And(ground, pos.Iff(i, []int{n.below(size), n.below(size)}))
		}
		if n.below(4) == 0 {
			ground = pos.And(ground, pos.Or(pos.Var(i), pos.Var(n.below(size))))
		}
		for range 2 {
			share = append(share, [2]int{i, n.below(size)})
		}
		k := n.below(6)
		of = append(of, []types.T{types.Any(), types.Any(), types.Any(), types.Any(), types.Join(types.Int(), types.Atoms()), types.List(types.Any())}[k])
		if k == 0 {
			free = append(free, i)
		}
	}
	return Make(size, ground, share, free, of)
}

func TestWhatFollows(t *testing.T) {
	n := next(6)
	described := 0
	for range 6000 {
		p, q := n.desc(3), n.desc(3)
		j := Join(p, q)
		if !Leq(p, j) || !Leq(q, j) || !Leq(p, p) || !Leq(p, Top(3)) {
			t.Fatal("Leq of a join", p.Text(), q.Text())
		}
		for range 10 {
			l := []api.Term{n.term(2), n.term(2), n.term(2)}
			if !in(Top(3), l...) {
				t.Fatal("Top", l)
			}
			is := in(p, l...)
			if is {
				described++
			}
			if is && (!in(j, l...) || Leq(p, q) && !in(q, l...)) {
				t.Fatal("Join, Leq", p.Text(), q.Text(), l)
			}
			to := []int{n.below(4), n.below(4), n.below(4)}
			var m []api.Term
			for _, i := range to {
				m = append(m, append(l, term.V(int64(n.below(5))))[i])
			}
			if i := slices.Index(to, 3); i >= 0 { // one place beyond, however often it stands there
				for k := range to {
					if to[k] == 3 {
						m[k] = m[i]
					}
				}
			}
			if is && !in(p.Project(to), m...) {
				t.Fatal("Project", p.Text(), to, m, p.Project(to).Text())
			}
		}
	}
	if described < 1000 {
		t.Error("too few are described", described)
	}
}

func TestManyPlaces(t *testing.T) {
	of := make([]types.T, 64)
	for i := range of {
		of[i] = types.Int()
	}
	f := pos.Const(false)
	for i := range 31 {
		f = pos.Or(f, pos.And(pos.Var(2*i), pos.Var(2*i+1)))
	}
	d := Make(64, f, Top(64).Share(), nil, of)
	if d.IsBottom() || len(d.Share()) != 0 || !d.Ground().Entails(0) || !d.Ground().Entails(63) || !Leq(d, Top(64)) {
		t.Error("64 numbers", d.Text())
	}
}
