package rename

import (
	"math"
	"slices"
	"testing"

	"resolvent/api"
	"resolvent/term"
)

func x(n int64) api.Term { return term.V(n) }

func f(args ...api.Term) api.Term { return term.F("f", args...) }

func same(a, b []api.Term) bool { return slices.EqualFunc(a, b, term.Same) }

func one(t api.Term) []api.Term { return []api.Term{t} }

func TestExamples(t *testing.T) {
	if l := Canon(f(x(7), x(3)), x(7)); !same(l, []api.Term{f(x(0), x(1)), x(0)}) {
		t.Error("Canon", l)
	}
	if !Variants(one(f(x(0), x(1))), one(f(x(1), x(0)))) || Variants(one(f(x(0), x(0))), one(f(x(0), x(1)))) {
		t.Error("Variants")
	}
	if !term.Same(Shift(f(x(0)), 5), f(x(5))) || Count(f(x(2), term.A("a"))) != 3 {
		t.Error("Shift, Count")
	}
}

func TestCanon(t *testing.T) {
	if len(Canon()) != 0 {
		t.Error("Canon of none")
	}
	l := Canon(term.I(4), f(x(9), term.F("g", x(2), x(9))), x(0), x(2))
	if !same(l, []api.Term{term.I(4), f(x(0), term.F("g", x(1), x(0))), x(2), x(1)}) {
		t.Error("Canon through all terms", l)
	}
	if !same(Canon(l...), l) {
		t.Error("canonical forms are not their own")
	}
}

func TestVariants(t *testing.T) {
	groups := [][][]api.Term{
		{nil, {}},
		{one(x(0)), one(x(5))},
		{{x(0), x(1)}, {x(1), x(0)}, {x(4), x(9)}},
		{{x(0), x(0)}, {x(1), x(1)}},
		{one(f(x(0), x(1), x(0))), one(f(x(3), x(0), x(3)))},
		{one(f(x(0), x(1), x(1)))},
		{one(term.I(0))}, {one(term.I(1))}, {one(term.A("a"))}, {one(term.A("b"))}, {one(term.F("g", x(0)))}, {one(f(x(0)))},
	}
	for i, g := range groups {
		for j, h := range groups {
			for _, a := range g {
				for _, b := range h {
					if Variants(a, b) != (i == j) || Variants(a, b) != same(Canon(a...), Canon(b...)) {
						t.Error("Variants of", a, b)
					}
				}
			}
		}
	}
}

func TestShiftAndCount(t *testing.T) {
	y := f(x(1), term.I(1), term.F("g", x(0), term.A("a")))
	if !term.Same(Shift(y, 10), f(x(11), term.I(1), term.F("g", x(10), term.A("a")))) || !Variants(one(y), one(Shift(y, 1<<61))) {
		t.Error("Shift")
	}
	if !term.Same(Shift(Shift(y, 5), -5), y) || Shift(x(math.MaxInt64), 1).N != math.MinInt64 {
		t.Error("Shift below 0, and round")
	}
	if Count() != 0 || Count(term.A("a"), term.I(7)) != 0 || Count(x(0)) != 1 || Count(x(2), f(x(5), x(1)), x(3)) != 6 {
		t.Error("Count")
	}
}

func TestSharesNothing(t *testing.T) {
	y := f(f(term.I(1)))
	l := []api.Term{y, y}
	c := Canon(l...)
	c[0].Args[0].Args[0] = term.I(2)
	s := Shift(y, 0)
	s.Args[0].Args[0] = term.I(3)
	if y.Args[0].Args[0].N != 1 || c[1].Args[0].Args[0].N != 1 {
		t.Error("memory is shared")
	}
}

func TestAnyTermEnds(t *testing.T) {
	deep := x(1)
	for range 1 << 16 {
		deep = api.Term{Kind: api.Struct, Name: "s", Args: []api.Term{deep}}
	}
	odd := []api.Term{deep, {}, {Kind: 9, N: 3, Args: one(x(1))}, x(-3), {Kind: api.Var, Name: "v", N: math.MaxInt64, Args: one(x(2))}}
	if !Variants(odd, Canon(odd...)) || !Variants(one(deep), one(Shift(deep, 4))) || Count(deep) != 2 {
		t.Error("terms that are no good")
	}
	Count(odd...)
	Shift(odd[3], math.MinInt64)
}
