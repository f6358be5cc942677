package unify

import (
	"testing"

	"resolvent/api"
	"resolvent/subst"
	"resolvent/term"
)

func x(n int64) api.Term { return term.V(n) }

func f(args ...api.Term) api.Term { return term.F("f", args...) }

var a = term.A("a")

func TestExamples(t *testing.T) {
	s := subst.New()
	r, ok, err := Unify(s, f(x(0), x(1)), f(x(1), a))
	if !ok || err != api.OK || r.Len() != 2 || !term.Same(r.Walk(x(0)), a) || !term.Same(r.Walk(x(1)), a) {
		t.Error("f(X0, X1), f(X1, a)")
	}
	if s.Len() != 0 || r == s {
		t.Error("s was changed")
	}
	for i, p := range []pair{{x(0), f(x(0))}, {f(a), f(a, term.A("b"))}, {a, term.I(1)}} {
		if r, ok, err := Unify(s, p.a, p.b); r != nil || ok || err != api.OK {
			t.Error("they unify", i)
		}
	}
	if r, ok, err := Unify(s, x(0), x(0)); !ok || err != api.OK || r.Len() != 0 || r == s {
		t.Error("X0, X0")
	}
}

func TestDirection(t *testing.T) {
	s := subst.New()
	s.Bind(3, x(4))
	r, _, _ := Unify(s, x(0), x(3))
	if y := r.Walk(x(0)); y.N != 4 || r.Len() != 2 {
		t.Error("a is bound to b, walked")
	}
	r, _, _ = Unify(s, a, x(3))
	if y := r.Walk(x(4)); y.Kind != api.Atom || r.Len() != 2 {
		t.Error("b is bound to a")
	}
}

func TestNilAndLists(t *testing.T) {
	if r, ok, err := Unify(nil, a, a); r != nil || ok || err != api.ErrNil {
		t.Error("Unify by nil")
	}
	if r, ok, err := Lists(nil, []api.Term{a}, nil); r != nil || ok || err != api.ErrNil {
		t.Error("Lists by nil")
	}
	s := subst.New()
	if r, ok, err := Lists(s, []api.Term{a}, nil); r != nil || ok || err != api.OK {
		t.Error("Lists of unlike lengths")
	}
	if r, ok, err := Lists(s, nil, nil); r == nil || !ok || err != api.OK {
		t.Error("Lists of none")
	}
	r, ok, _ := Lists(s, []api.Term{x(0), x(1), x(2)}, []api.Term{x(1), f(x(2)), a})
	if y, _ := r.Apply(x(0)); !ok || !term.Same(y, f(a)) {
		t.Error("Lists")
	}
	if _, ok, _ := Lists(s, []api.Term{x(0), x(0)}, []api.Term{a, term.A("b")}); ok {
		t.Error("what one pair binds does not hold for the next")
	}
}

// wide is a structure of that many Args.
func wide(args int, of api.Term) api.Term {
	l := make([]api.Term, args)
	for i := range l {
		l[i] = of
	}
	return f(l...)
}

func TestVisits(t *testing.T) {
	s := subst.New()
	if _, ok, err := Unify(s, wide(api.MaxWork-1, a), wide(api.MaxWork-1, a)); !ok || err != api.OK {
		t.Error("MaxWork pairs")
	}
	if r, ok, err := Unify(s, wide(api.MaxWork, a), wide(api.MaxWork, a)); r != nil || ok || err != api.ErrFull {
		t.Error("one pair more")
	}
	if _, ok, err := Unify(s, x(0), wide(api.MaxWork-2, a)); !ok || err != api.OK {
		t.Error("a pair, and what is visited for an occurrence")
	}
	if r, ok, err := Unify(s, x(0), wide(api.MaxWork-1, a)); r != nil || ok || err != api.ErrFull {
		t.Error("one node more")
	}
	half := wide(api.MaxWork/2-2, a)
	if _, ok, err := Lists(s, []api.Term{x(0), x(1)}, []api.Term{half, half}); !ok || err != api.OK {
		t.Error("two halves")
	}
	half.Args = append(half.Args, a)
	if _, _, err := Lists(s, []api.Term{x(0), x(1)}, []api.Term{half, half}); err != api.ErrFull {
		t.Error("the visits of all pairs count together")
	}
	odd := wide(api.MaxWork, a)
	odd.Args[api.MaxWork-2] = term.I(1)
	if _, ok, err := Unify(s, odd, wide(api.MaxWork, a)); ok || err != api.OK {
		t.Error("what does not unify ahead of too many visits")
	}
	odd.Args[0] = x(7)
	if _, ok, err := Unify(s, x(7), odd); ok || err != api.OK {
		t.Error("what occurs ahead of too many visits")
	}
}

func TestArgsFromTheFirstOneOn(t *testing.T) {
	s := subst.New()
	deep := f(wide(api.MaxWork, a), a)
	other := f(wide(api.MaxWork, a), term.I(1))
	if _, _, err := Unify(s, deep, other); err != api.ErrFull {
		t.Error("the second Arg was ahead of the first one's")
	}
	if _, ok, err := Unify(s, f(a, deep), f(term.I(1), deep)); ok || err != api.OK {
		t.Error("the first Arg was not first")
	}
}

// next is a small generator of numbers: the tests are the same each time.
type next uint32

func (n *next) below(m int) int {
	*n = *n*1664525 + 1013904223
	return int(*n>>16) % m
}

func (n *next) term(depth int) api.Term {
	switch k := n.below(6); {
	case k < 2 || depth == 0:
		return x(int64(n.below(4)))
	case k == 2:
		return a
	case k == 3:
		return term.I(int64(n.below(2)))
	case k == 4:
		return f(n.term(depth - 1))
	}
	return f(n.term(depth-1), n.term(depth-1))
}

func TestAlikeApplied(t *testing.T) {
	n := next(1)
	yes := 0
	for range 3000 {
		p, q := n.term(3), n.term(3)
		r, ok, err := Unify(subst.New(), p, q)
		_, back, _ := Unify(subst.New(), q, p)
		if err != api.OK || ok != back {
			t.Fatal("it hangs on the order", p, q)
		}
		if ok {
			yes++
			l, _ := r.Apply(p)
			m, _ := r.Apply(q)
			if !term.Same(l, m) {
				t.Fatal("not alike, applied", p, q)
			}
		}
		// A substitution that makes them alike binds more than the one that is told.
		g := subst.New()
		for i := range int64(4) {
			g.Bind(i, []api.Term{a, term.I(0), f(a)}[n.below(3)])
		}
		l, _ := g.Apply(p)
		m, _ := g.Apply(q)
		if !term.Same(l, m) {
			continue
		}
		if !ok {
			t.Fatal("there is one that makes them alike", p, q)
		}
		for i := range int64(4) {
			v, _ := r.Apply(x(i))
			v, _ = g.Apply(v)
			w, _ := g.Apply(x(i))
			if !term.Same(v, w) {
				t.Fatal("it does not bind more", p, q)
			}
		}
	}
	if yes < 100 {
		t.Error("too few unify", yes)
	}
}

func TestAnyTermEnds(t *testing.T) {
	deep := a
	for range 1 << 16 {
		deep = api.Term{Kind: api.Struct, Name: "s", Args: []api.Term{deep}}
	}
	s := subst.New()
	odd := []api.Term{deep, {}, {Kind: 9, Args: []api.Term{x(1)}}, x(-3), x(-4), {Kind: api.Var, N: 2, Args: []api.Term{x(2)}}}
	for _, p := range odd {
		for _, q := range odd {
			Unify(s, p, q)
		}
	}
	if _, _, err := Unify(s, deep, deep); err != api.ErrFull || s.Len() != 0 {
		t.Error("what is too deep")
	}
}
