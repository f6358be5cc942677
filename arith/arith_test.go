package arith

import (
	"math"
	"math/big"
	"testing"

	"resolvent/api"
	"resolvent/subst"
	"resolvent/term"
)

func two(name string, l, r int64) api.Term { return term.F(name, term.I(l), term.I(r)) }

func TestExamples(t *testing.T) {
	one, x, a := term.I(1), term.V(0), term.A("a")
	for i, c := range []struct {
		t    api.Term
		want int64
		err  api.Errno
	}{
		{two("//", -7, 2), -3, 0}, {two("rem", -7, 2), -1, 0}, {two("mod", -7, 2), 1, 0}, {two("mod", 7, -2), -1, 0},
		{two("+", math.MaxInt64, 1), 0, api.ErrEval}, {two("//", 1, 0), 0, api.ErrZero},
		{term.F("+", one, x), 0, api.ErrInst}, {term.F("+", one, a), 0, api.ErrType},
		{one, 1, 0}, {x, 0, api.ErrInst}, {a, 0, api.ErrType}, {term.F("f", one), 0, api.ErrType},
		{term.F("-", term.I(5)), -5, 0}, {term.F("-", term.I(math.MinInt64)), 0, api.ErrEval}, {term.F("-", term.F("-", one)), 1, 0},
		{two("rem", 5, 0), 0, api.ErrZero}, {two("mod", 5, 0), 0, api.ErrZero}, {two("//", math.MinInt64, -1), 0, api.ErrEval},
		{two("rem", math.MinInt64, -1), 0, 0}, {two("mod", math.MinInt64, -1), 0, 0}, {two("*", math.MinInt64, -1), 0, api.ErrEval},
		{two("*", math.MinInt64, 1), math.MinInt64, 0}, {two("-", 0, math.MinInt64), 0, api.ErrEval}, {two("-", -1, math.MinInt64), math.MaxInt64, 0},
		{two("+", math.MinInt64, 0), math.MinInt64, 0}, {two("-", math.MinInt64, 0), math.MinInt64, 0}, {two("/", 4, 2), 0, api.ErrType},
		{term.F("+", one), 0, api.ErrType}, {term.F("-", one, one, one), 0, api.ErrType}, {term.F("//", one), 0, api.ErrType},
		{term.F("+", two("//", 1, 0), x), 0, api.ErrZero}, {term.F("+", x, two("//", 1, 0)), 0, api.ErrInst},
		{term.F("//", a, term.I(0)), 0, api.ErrType}, {term.F("f", x), 0, api.ErrType}, {term.F("//", term.I(0), two("+", math.MaxInt64, 1)), 0, api.ErrEval},
		{api.Term{}, 0, api.ErrType}, {api.Term{Kind: api.Atom, Name: "-", Args: []api.Term{one}}, 0, api.ErrType}, {term.V(-1), 0, api.ErrInst},
	} {
		if n, err := Eval(subst.New(), c.t); n != c.want || err != c.err {
			t.Error(i, n, err)
		}
	}
	if n, err := Eval(nil, one); n != 0 || err != api.ErrNil {
		t.Error("by nil", err)
	}
}

func TestWorthWhatItIsWorthApplied(t *testing.T) {
	s := subst.New()
	s.Bind(0, term.F("*", term.V(1), term.I(3)))
	s.Bind(1, term.V(2))
	s.Bind(2, term.I(4))
	x := term.F("-", term.V(0), term.F("mod", term.V(1), term.I(3)))
	y, _ := s.Apply(x)
	n, err := Eval(s, x)
	m, _ := Eval(subst.New(), y)
	if n != 11 || m != 11 || err != api.OK {
		t.Error(n, m, err)
	}
}

func TestExact(t *testing.T) {
	edges := []int64{0, 1, -1, 2, -2, 3, 7, -7, 10, 1 << 31, -1 << 31, 1<<32 + 1, 3037000499, 3037000500, -3037000500, 1 << 62, -1 << 62, math.MaxInt64, math.MaxInt64 - 1, math.MinInt64, math.MinInt64 + 1}
	for _, l := range edges {
		for _, r := range edges {
			for name, whole := range map[string]func(x, y *big.Int) *big.Int{
				"+":   func(x, y *big.Int) *big.Int { return new(big.Int).Add(x, y) },
				"-":   func(x, y *big.Int) *big.Int { return new(big.Int).Sub(x, y) },
				"*":   func(x, y *big.Int) *big.Int { return new(big.Int).Mul(x, y) },
				"//":  func(x, y *big.Int) *big.Int { return new(big.Int).Quo(x, y) },
				"rem": func(x, y *big.Int) *big.Int { return new(big.Int).Rem(x, y) },
				"mod": func(x, y *big.Int) *big.Int {
					m := new(big.Int).Rem(x, y)
					if m.Sign() != 0 && m.Sign() != y.Sign() {
						m.Add(m, y)
					}
					return m
				},
			} {
				n, err := Eval(subst.New(), two(name, l, r))
				if r == 0 && len(name) > 1 {
					if err != api.ErrZero || n != 0 {
						t.Error(name, l, err)
					}
					continue
				}
				want := whole(big.NewInt(l), big.NewInt(r))
				if want.IsInt64() && (err != api.OK || n != want.Int64()) || !want.IsInt64() && (err != api.ErrEval || n != 0) {
					t.Error(l, name, r, n, err)
				}
			}
		}
	}
}

// sum is a sum of so many nodes.
func sum(nodes int) api.Term {
	if nodes == 1 {
		return term.I(1)
	}
	half := (nodes - 1) / 2
	if half%2 == 0 {
		half--
	}
	return term.F("+", sum(nodes-1-half), sum(half))
}

func TestFull(t *testing.T) {
	most := term.F("-", sum(api.MaxWork-1))
	if n, err := Eval(subst.New(), most); err != api.OK || n != -api.MaxWork/4*2 {
		t.Error("MaxWork nodes", n, err)
	}
	if n, err := Eval(subst.New(), term.F("-", most)); err != api.ErrFull || n != 0 {
		t.Error("one node more", n, err)
	}
	if _, err := Eval(subst.New(), term.F("+", term.V(0), most)); err != api.ErrInst {
		t.Error("what is wrong ahead of too many", err)
	}
	deep := term.I(1)
	for range 1 << 16 {
		deep = api.Term{Kind: api.Struct, Name: "-", Args: []api.Term{deep}}
	}
	if _, err := Eval(subst.New(), deep); err != api.ErrFull {
		t.Error("deep", err)
	}
}
