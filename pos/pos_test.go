package pos

import (
	"math"
	"slices"
	"testing"

	"resolvent/api"
)

const vars = 5

// sets are all choices of the first variables.
func sets() [][]int {
	var r [][]int
	for bits := range 1 << vars {
		var l []int
		for v := range vars {
			if bits>>v&1 == 1 {
				l = append(l, v)
			}
		}
		r = append(r, l)
	}
	return r
}

// table is what f is for all choices of the first variables.
func table(f Func) uint32 {
	t := uint32(0)
	for i, l := range sets() {
		if f.Eval(l) {
			t |= 1 << i
		}
	}
	return t
}

// next is a small generator of numbers: the tests are the same each time.
type next uint32

func (n *next) below(m int) int {
	*n = *n*1664525 + 1013904223
	return int(*n>>16) % m
}

// function is some function of the first variables.
func (n *next) function(depth int) Func {
	if depth == 0 {
		switch n.below(6) {
		case 0:
			return Const(n.below(2) == 0)
		case 1, 2:
			return Iff(n.below(vars), []int{n.below(vars), n.below(vars)})
		}
		return Var(n.below(vars))
	}
	switch n.below(5) {
	case 0:
		return Exists(n.function(depth-1), n.below(vars))
	case 1:
		return Rename(n.function(depth-1), []int{3, 1, 4, 0, 2})
	case 2:
		return Or(n.function(depth-1), n.function(depth-1))
	}
	return And(n.function(depth-1), n.function(depth-1))
}

func TestExamples(t *testing.T) {
	f := And(Var(0), Iff(0, []int{1, 2}))
	if !f.Entails(1) || !f.Entails(2) || f.Entails(3) {
		t.Error("And(Var(0), Iff(0, 1 2))")
	}
	if !Exists(And(Var(0), Var(1)), 0).Same(Var(1)) {
		t.Error("Exists")
	}
	if g := Or(Var(0), Const(true)); !g.Same(Const(true)) || g.Size() != 0 {
		t.Error("Or")
	}
}

func TestConstVarIff(t *testing.T) {
	if !Const(true).Eval(nil) || Const(false).Eval([]int{0, 1}) || !(Func{}).Same(Const(false)) || Const(true).Same(Const(false)) {
		t.Error("Const")
	}
	for _, l := range sets() {
		for v := range vars {
			if Var(v).Eval(l) != slices.Contains(l, v) {
				t.Error("Var", v, l)
			}
			for _, of := range sets() {
				all := true
				for _, w := range of {
					all = all && slices.Contains(l, w)
				}
				if Iff(v, of).Eval(l) != (slices.Contains(l, v) == all) {
					t.Error("Iff", v, of, l)
				}
			}
		}
	}
	if !Iff(3, nil).Same(Var(3)) || !Iff(3, []int{-1, -7}).Same(Var(3)) || !Iff(3, []int{4, -1, 4}).Same(Iff(3, []int{4})) || !Iff(2, []int{2}).Same(Const(true)) {
		t.Error("Iff of none, of those below 0, of one twice")
	}
	if !Var(-1).Same(Const(true)) || !Iff(-1, []int{1}).Same(Const(true)) || Var(0).Size() != 1 || Var(math.MaxInt).Size() != 1 {
		t.Error("a variable below 0, a great one")
	}
}

func TestOneFunctionHasOneDiagram(t *testing.T) {
	n := next(1)
	seen := map[uint32]Func{}
	texts := map[string]uint32{}
	for range 3000 {
		f := n.function(3)
		b := table(f)
		if g, ok := seen[b]; ok && (!f.Same(g) || f.Text() != g.Text() || f.Size() != g.Size()) {
			t.Fatal("one function, two diagrams", f, g)
		}
		seen[b] = f
		if c, ok := texts[f.Text()]; ok && c != b {
			t.Fatal("two functions, one text", f.Text())
		}
		texts[f.Text()] = b
		var hangs []int
		for v := range vars {
			if b&high(v)>>(1<<v) != b&^high(v) {
				hangs = append(hangs, v)
			}
			if f.Entails(v) != (b&^high(v) == 0) || f.Entails(v) != And(f, Var(v)).Same(f) {
				t.Fatal("Entails", f, v)
			}
		}
		if !slices.Equal(f.Vars(), hangs) {
			t.Fatal("Vars", f, f.Vars(), hangs)
		}
	}
	if len(seen) < 200 {
		t.Error("too few functions", len(seen))
	}
}

// high is the table of a variable.
func high(v int) uint32 { return table(Var(v)) }

func TestAndOrExistsRename(t *testing.T) {
	n := next(2)
	to := []int{2, 0, 4, 1, 3}
	for range 2000 {
		f, g, v := n.function(2), n.function(2), n.below(vars)
		a, b := table(f), table(g)
		if table(And(f, g)) != a&b || table(Or(f, g)) != a|b || f.Same(g) != (a == b) {
			t.Fatal("And, Or, Same", f, g)
		}
		low, up := a&^high(v), a&high(v)
		if table(Exists(f, v)) != low|low<<(1<<v)|up|up>>(1<<v) {
			t.Fatal("Exists", f, v)
		}
		if e := Exists(f, v); !Or(e, f).Same(e) || slices.Contains(e.Vars(), v) {
			t.Fatal("Exists is above f, and hangs not on v")
		}
		r := Rename(f, to)
		for _, l := range sets() {
			var m []int
			for _, w := range l {
				m = append(m, to[w])
			}
			if r.Eval(m) != f.Eval(l) {
				t.Fatal("Rename", f, l)
			}
		}
	}
}

func TestRenameThatMayNotBe(t *testing.T) {
	f := And(Var(1), Or(Var(3), Var(4)))
	yes := Const(true)
	for i, c := range []struct {
		to   []int
		want Func
	}{
		{[]int{9, 1, 9, 3, 4}, f},
		{[]int{-1, 1, 1, 3, 4, -1, 3}, f},
		{[]int{0, 5, 0, 2, 0}, And(Var(5), Or(Var(2), Var(0)))},
		{[]int{0, 1, 2, 3}, yes},
		{nil, yes},
		{[]int{0, 1, 2, -3, 4}, yes},
		{[]int{0, 1, 2, 4, 4}, yes},
		{[]int{0, 4, 2, 3, 4}, yes},
	} {
		if got := Rename(f, c.to); !got.Same(c.want) {
			t.Error(i, got)
		}
	}
	if !Rename(Const(false), nil).Same(Const(false)) {
		t.Error("of none")
	}
	great := And(Var(0), Or(Var(1), Var(math.MaxInt)))
	if g := Rename(And(Var(0), Or(Var(1), Var(2))), []int{math.MaxInt, 1, 0}); !g.Same(And(Var(math.MaxInt), Or(Var(1), Var(0)))) || great.Size() != 3 || !great.Entails(0) {
		t.Error("the greatest variable", g)
	}
}

func TestEvalEntailsBelow0(t *testing.T) {
	f := And(Var(0), Var(2))
	if !f.Eval([]int{-4, 2, 0, 2, 77}) || f.Eval([]int{-1, 0}) {
		t.Error("Eval")
	}
	if f.Entails(-1) || Const(false).Entails(-1) || !Const(false).Entails(7) || Const(true).Entails(0) || !f.Entails(2) {
		t.Error("Entails")
	}
	if !Exists(f, -1).Same(f) || !Exists(f, 1).Same(f) {
		t.Error("Exists of none of its variables")
	}
}

// all are variables from one number below another one.
func all(from, to int) []int {
	var l []int
	for v := from; v < to; v++ {
		l = append(l, v)
	}
	return l
}

func TestTooGreatBecomesTrue(t *testing.T) {
	yes := Const(true)
	most := Var(0)
	for v := 1; v < api.MaxNodes; v++ {
		most = And(most, Var(v))
	}
	if most.Size() != api.MaxNodes {
		t.Fatal("MaxNodes nodes", most.Size())
	}
	if !And(most, Var(api.MaxNodes)).Same(yes) || !And(most, Var(3)).Same(most) || !Or(most, Var(1000)).Same(yes) || And(most, Const(false)).Size() != 0 {
		t.Error("And, Or")
	}
	if f := Exists(most, 7); f.Size() != api.MaxNodes-1 || And(f, Var(300)).Size() != api.MaxNodes {
		t.Error("Exists")
	}
	back := all(0, api.MaxNodes)
	slices.Reverse(back)
	if !Rename(most, back).Same(most) {
		t.Error("Rename of MaxNodes nodes")
	}
	to := all(0, api.MaxNodes)
	to[0] = 1000
	if f := Rename(most, to); f.Size() != api.MaxNodes || !f.Entails(1000) || f.Entails(0) {
		t.Error("Rename of the first one to the last one", f.Size())
	}
	if f := Iff(0, all(1, 129)); f.Size() != 1+2*128 && !f.Same(yes) || !f.Same(yes) {
		t.Error("Iff of 257 nodes", f.Size())
	}
	if f := Iff(0, all(1, 128)); f.Size() != 1+2*127 {
		t.Error("Iff of 255 nodes", f.Size())
	}
	if f := Iff(300, all(0, 254)); f.Size() != 256 {
		t.Error("Iff of the last one", f.Size())
	}
	if !Iff(300, all(0, 255)).Same(yes) || !Iff(0, all(1, 100000)).Same(yes) || !Iff(5, all(0, 100000)).Same(yes) {
		t.Error("Iff of many")
	}
}

func TestRenameToAnotherOrderEnds(t *testing.T) {
	f := Const(false)
	for i := range 60 {
		f = Or(f, And(Var(2*i), Var(2*i+1)))
	}
	if f.Size() != 120 {
		t.Fatal("pairs", f.Size())
	}
	to := make([]int, 120)
	for i := range to {
		to[i] = i/2 + i%2*60
	}
	if !Rename(f, to).Same(Const(true)) {
		t.Error("a diagram of 2^60 nodes")
	}
	// Six such pairs fit.
	g := Const(false)
	h := Const(false)
	for i := range 6 {
		g = Or(g, And(Var(2*i), Var(2*i+1)))
		h = Or(h, And(Var(i), Var(i+60)))
	}
	if r := Rename(g, to); !r.Same(h) || r.Size() != 126 {
		t.Error("a diagram of 126 nodes", r.Size())
	}
}

func TestHolds(t *testing.T) {
	n := next(3)
	sure := 0
	for range 4000 {
		f := n.function(2)
		as := make([][]int, vars)
		for i := range as {
			for range n.below(3) {
				as[i] = append(as[i], n.below(vars+1)-1)
			}
		}
		want := true
		for _, on := range sets() {
			var l []int
			for i, s := range as {
				if !slices.ContainsFunc(s, func(v int) bool { return v >= 0 && !slices.Contains(on, v) }) {
					l = append(l, i)
				}
			}
			want = want && f.Eval(l)
		}
		if f.Holds(as) != want {
			t.Fatal("Holds", f, as, want)
		}
		if want && f.Size() > 0 {
			sure++
		}
	}
	if sure < 100 {
		t.Error("too few hold", sure)
	}
	if Var(2).Holds([][]int{nil, nil}) || !Var(2).Holds([][]int{{1}, {1}, {}}) || !Const(true).Holds(nil) || Const(false).Holds(nil) {
		t.Error("Holds beyond sets, of none")
	}
	if !Iff(0, []int{1, 2}).Holds([][]int{{5, 1 << 40}, {5}, {1 << 40, -3}}) || Iff(0, []int{1, 2}).Holds([][]int{{5}, {5}, {6}}) {
		t.Error("Holds of great variables")
	}
}

func TestHoldsOfManyEnds(t *testing.T) {
	f, one := Const(true), Const(true)
	as := make([][]int, 160)
	for i := range 80 {
		f = And(f, Iff(2*i, []int{2*i + 1}))
		one = And(one, Var(i))
		as[2*i], as[2*i+1] = []int{i, i + 1, 1000}, []int{1000, i + 1, i}
	}
	if !f.Holds(as) || one.Holds(as) {
		t.Error("pairs that are alike")
	}
	as[77] = append(as[77], 2000)
	if f.Holds(as) {
		t.Error("one pair that is not")
	}
}

func TestArgumentsStay(t *testing.T) {
	l := []int{4, 2, -1, 2}
	Iff(3, l)
	f := And(Var(2), Var(4))
	f.Eval(l)
	v := f.Vars()
	v[0] = 9
	f.Holds([][]int{l, l, l, l, l})
	if !slices.Equal(l, []int{4, 2, -1, 2}) || !slices.Equal(f.Vars(), []int{2, 4}) {
		t.Error("changed", l)
	}
}
