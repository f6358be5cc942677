package subst

import (
	"testing"

	"resolvent/api"
	"resolvent/term"
)

// example binds X0 to f(X1), X1 to a.
func example(t *testing.T) *Subst {
	s := New()
	if s.Bind(0, term.F("f", term.V(1))) != api.OK || s.Bind(1, term.A("a")) != api.OK {
		t.Fatal("Bind")
	}
	return s
}

func TestExamples(t *testing.T) {
	s := example(t)
	if !term.Same(s.Walk(term.V(0)), term.F("f", term.V(1))) {
		t.Error("Walk(X0)")
	}
	x, err := s.Apply(term.F("g", term.V(0), term.V(2)))
	if err != api.OK || !term.Same(x, term.F("g", term.F("f", term.A("a")), term.V(2))) {
		t.Error("Apply", x, err)
	}
	if s.Bind(0, term.A("b")) != api.ErrArg || s.Bind(2, term.F("h", term.V(2))) != api.ErrArg || s.Len() != 2 {
		t.Error("Bind that is refused")
	}
	if is, err := s.Occurs(2, term.V(0)); is || err != api.OK {
		t.Error("Occurs")
	}
}

func TestNil(t *testing.T) {
	var s *Subst
	x := term.F("f", term.V(1))
	if s.Clone() != nil || s.Len() != 0 || !term.Same(s.Walk(x), x) {
		t.Error("Clone, Len, Walk")
	}
	if is, err := s.Occurs(1, x); is || err != api.ErrNil {
		t.Error("Occurs")
	}
	if y, err := s.Apply(x); err != api.ErrNil || !term.Same(y, api.Term{}) {
		t.Error("Apply")
	}
	if s.Bind(-1, x) != api.ErrNil {
		t.Error("Bind")
	}
}

func TestCloneGoesOnApart(t *testing.T) {
	s := example(t)
	c := s.Clone()
	if c.Len() != 2 || c.Bind(2, term.I(2)) != api.OK || s.Bind(3, term.I(3)) != api.OK || s.Bind(2, term.I(4)) != api.OK {
		t.Fatal("Bind")
	}
	if c.Len() != 3 || s.Len() != 4 || c.Walk(term.V(2)).N != 2 || s.Walk(term.V(2)).N != 4 || c.Walk(term.V(3)).Kind != api.Var {
		t.Error("one shows in the other")
	}
}

func TestManyBindings(t *testing.T) {
	s := New()
	numbers := []int64{0, 7, 8, 127, 128, 129, 1 << 20, 1<<62 + 5, 1<<63 - 1, 1 << 11, 3}
	var older []*Subst
	for _, v := range numbers {
		older = append(older, s.Clone())
		if s.Bind(v, term.I(v)) != api.OK {
			t.Fatal("Bind", v)
		}
	}
	for i, v := range numbers {
		if x := s.Walk(term.V(v)); x.Kind != api.Int || x.N != v {
			t.Error("Walk", v, x)
		}
		if x := older[i].Walk(term.V(v)); x.Kind != api.Var || older[i].Len() != i {
			t.Error("an older one knows", v)
		}
		if s.Walk(term.V(v^64)).Kind != api.Var || s.Bind(v, term.I(0)) != api.ErrArg {
			t.Error("another one is bound, or one twice", v)
		}
	}
	if s.Walk(term.V(-1)).Kind != api.Var || s.Bind(-1, term.I(0)) != api.ErrArg || s.Len() != len(numbers) {
		t.Error("a number below 0")
	}
}

// wide is a term of that many nodes.
func wide(nodes int) api.Term {
	l := make([]api.Term, nodes-1)
	for i := range l {
		l[i] = term.I(int64(i))
	}
	return term.F("f", l...)
}

func TestFull(t *testing.T) {
	s := New()
	most, more := wide(api.MaxWork), wide(api.MaxWork+1)
	if _, err := s.Occurs(0, most); err != api.OK {
		t.Error("Occurs of MaxWork nodes")
	}
	if is, err := s.Occurs(0, more); is || err != api.ErrFull {
		t.Error("Occurs of one more")
	}
	if x, err := s.Apply(most); err != api.OK || !term.Same(x, most) {
		t.Error("Apply of MaxWork nodes")
	}
	if x, err := s.Apply(more); err != api.ErrFull || x.Kind != 0 || x.Args != nil {
		t.Error("Apply of one more")
	}
	if s.Bind(0, more) != api.ErrFull || s.Len() != 0 || s.Bind(0, most) != api.OK {
		t.Error("Bind")
	}
	more.Args[2] = term.V(5)
	if is, err := s.Occurs(5, more); !is || err != api.OK {
		t.Error("what is visited ahead of too many ends it")
	}
	if s.Bind(5, more) != api.ErrArg {
		t.Error("Bind of what occurs early")
	}
	if _, err := s.Apply(term.F("f", term.V(0))); err != api.ErrFull {
		t.Error("bound variables count by what they are bound to")
	}
	if x, err := s.Apply(term.V(0)); err != api.OK || !term.Same(x, most) {
		t.Error("a bound variable counts itself")
	}
}

func TestOccurs(t *testing.T) {
	s := example(t)
	if is, _ := s.Occurs(2, term.F("f", term.V(0), term.F("g", term.V(2)))); !is {
		t.Error("it occurs")
	}
	if is, _ := s.Occurs(0, term.F("f", term.V(0))); is {
		t.Error("a bound one is not visited")
	}
	if s.Bind(4, term.V(4)) != api.ErrArg || s.Bind(4, term.V(5)) != api.OK || s.Bind(5, term.F("f", term.V(4))) != api.ErrArg {
		t.Error("a variable is bound to what it occurs in")
	}
}

func TestAppliedForGood(t *testing.T) {
	s := example(t)
	x := term.F("g", term.V(0), term.V(3), term.V(1))
	once, _ := s.Apply(x)
	twice, err := s.Apply(once)
	if err != api.OK || !term.Same(once, twice) || len(term.Vars(once)) != 1 {
		t.Error("applied again it is another one")
	}
	s.Bind(3, term.V(7))
	more, _ := s.Apply(x)
	if !term.Same(more, term.F("g", term.F("f", term.A("a")), term.V(7), term.A("a"))) {
		t.Error("binding one more", more)
	}
}

func TestSharesNothing(t *testing.T) {
	s := New()
	x := term.F("f", term.F("g", term.I(1)))
	s.Bind(0, x)
	x.Args[0].Args[0] = term.I(2)
	w := s.Walk(term.V(0))
	w.Args[0].Args[0] = term.I(3)
	y, _ := s.Apply(term.F("h", term.V(0), term.V(0)))
	y.Args[0].Args[0].Args[0] = term.I(4)
	if y.Args[1].Args[0].Args[0].N != 1 || s.Walk(term.V(0)).Args[0].Args[0].N != 1 {
		t.Error("memory is shared")
	}
	z := term.F("f", term.F("g", term.I(1)))
	w = s.Walk(z)
	w.Args[0].Args[0] = term.I(5)
	if z.Args[0].Args[0].N != 1 {
		t.Error("memory is shared with what is walked")
	}
}

func TestAnyTermEnds(t *testing.T) {
	deep := term.A("a")
	for range 1 << 16 {
		deep = api.Term{Kind: api.Struct, Name: "s", Args: []api.Term{deep}}
	}
	s := New()
	odd := []api.Term{deep, {}, {Kind: 9, Args: []api.Term{term.V(1)}}, term.V(-3), {Kind: api.Var, N: 2, Args: []api.Term{term.V(2), term.V(0)}}}
	for i, x := range odd {
		s.Walk(x)
		s.Occurs(-3, x)
		s.Bind(int64(i), x)
		s.Apply(x)
		s.Apply(term.V(int64(i)))
	}
	if s.Bind(9, deep) != api.ErrFull {
		t.Error("a term that is too deep to be visited")
	}
}
