package order

import (
	"testing"

	"resolvent/api"
	"resolvent/term"
)

// rising are terms, each ahead of all behind it.
func rising() []api.Term {
	return []api.Term{
		term.V(0), term.V(1), term.V(2), term.V(9), term.V(1 << 40),
		term.I(-1 << 63), term.I(-5), term.I(0), term.I(7), term.I(1<<63 - 1),
		term.A(""), term.A("A"), term.A("a"), term.A("aa"), term.A("b"),
		term.F("f", term.V(0)), term.F("f", term.A("b")), term.F("f", term.F("a", term.V(0))), term.F("g", term.A("a")),
		term.F("a", term.V(0), term.V(0)), term.F("f", term.V(0), term.I(3)), term.F("f", term.V(1), term.I(2)),
		term.F("f", term.A("a"), term.A("a")), term.F("f", term.A("a"), term.A("b")), term.F("g", term.A("a"), term.A("a")),
		term.F("a", term.V(0), term.V(0), term.V(0)),
	}
}

func TestCompareIsOneOrder(t *testing.T) {
	l := rising()
	for i, a := range l {
		for j, b := range l {
			want := 0
			if i < j {
				want = -1
			} else if i > j {
				want = 1
			}
			if got := Compare(a, b); got != want {
				t.Errorf("Compare of %v and %v: %d", a, b, got)
			}
		}
	}
}

func TestExamples(t *testing.T) {
	a, b := term.A("a"), term.A("b")
	for i, p := range [][2]api.Term{
		{term.V(1), term.V(2)}, {term.V(9), term.I(-5)}, {term.I(7), a},
		{term.F("f", b), term.F("g", a)}, {term.F("g", a), term.F("f", a, b)},
	} {
		if Compare(p[0], p[1]) != -1 || Compare(p[1], p[0]) != 1 || Compare(p[0], p[0]) != 0 {
			t.Errorf("example %d", i)
		}
	}
}

func TestSort(t *testing.T) {
	l := rising()
	var mixed []api.Term
	for i := range l {
		x := l[(i*7+3)%len(l)]
		mixed = append(mixed, x, x)
	}
	was := clones(mixed)
	got := Sort(mixed)
	if len(got) != 2*len(l) {
		t.Fatal("how many", len(got))
	}
	for i := range got {
		if !term.Same(got[i], l[i/2]) {
			t.Error("place", i, got[i])
		}
		if !term.Same(mixed[i], was[i]) {
			t.Error("what was handed in was changed")
		}
	}
	if len(Sort(nil)) != 0 || len(Sort([]api.Term{})) != 0 {
		t.Error("Sort of none")
	}
}

func TestSortSharesNothing(t *testing.T) {
	l := []api.Term{term.F("f", term.F("g", term.I(1))), term.F("f", term.I(0))}
	got := Sort(l)
	got[1].Args[0].Args[0] = term.I(9)
	if l[0].Args[0].Args[0].N != 1 {
		t.Error("memory is shared")
	}
	room := make([]api.Term, 1, 3)
	room[0] = term.A("b")
	room = room[:1]
	got = append(Sort(room), term.A("x"))
	if room[:2][1].Kind != 0 || len(got) != 2 {
		t.Error("the room behind a list's end was changed")
	}
}

func TestAnyTermEnds(t *testing.T) {
	deep := term.A("a")
	for range 1 << 16 {
		deep = api.Term{Kind: api.Struct, Name: "s", Args: []api.Term{deep}}
	}
	odd := []api.Term{deep, {}, {Kind: 9, N: 4}, {Kind: api.Var, Name: "x", N: -1}, {Kind: api.Struct}, {Kind: api.Atom, Args: []api.Term{{}}}, deep}
	for _, a := range odd {
		for _, b := range odd {
			if d := Compare(a, b); d < -1 || d > 1 {
				t.Error("Compare", d)
			}
		}
	}
	if len(Sort(odd)) != len(odd) || Compare(deep, deep) != 0 {
		t.Error("Sort")
	}
}
