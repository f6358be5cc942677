package graph

import (
	"slices"
	"testing"

	"resolvent/api"
	"resolvent/term"
)

func same(a, b [][]int) bool { return slices.EqualFunc(a, b, slices.Equal[[]int]) }

func TestOf(t *testing.T) {
	for _, c := range []struct {
		t    api.Term
		want api.Pred
	}{
		{term.A("p"), api.Pred{Name: "p"}}, {term.F("p", term.V(0), term.I(1)), api.Pred{Name: "p", Arity: 2}},
		{term.V(3), api.Pred{}}, {term.I(3), api.Pred{}}, {api.Term{}, api.Pred{}},
	} {
		if Of(c.t) != c.want {
			t.Error(c.t, Of(c.t))
		}
	}
}

// clause is one of a head and goals.
func clause(head api.Term, body ...api.Term) api.Clause { return api.Clause{Head: head, Body: body} }

func TestPredsAndCalls(t *testing.T) {
	p, q, r := term.A("p"), term.F("q", term.V(0)), term.A("q")
	in := api.Program{Clauses: []api.Clause{
		clause(q, r, p, r, term.A("none"), term.V(0)),
		clause(p),
		clause(q, q, term.F("p", p), term.I(4)),
		clause(r, term.F("q", term.I(1)), term.A("!")),
	}}
	if l := Preds(in); !slices.Equal(l, []api.Pred{{Name: "q", Arity: 1}, {Name: "p"}, {Name: "q"}}) {
		t.Error("Preds", l)
	}
	if l := Calls(in); !same(l, [][]int{{0, 1, 2}, {}, {0}}) {
		t.Error("Calls", l)
	}
	if len(Preds(api.Program{})) != 0 || len(Calls(api.Program{})) != 0 {
		t.Error("of nothing")
	}
}

func TestVariablesCallNobody(t *testing.T) {
	in := api.Program{Clauses: []api.Clause{clause(term.A(""), term.V(0), term.I(1)), clause(term.V(1), term.A(""))}}
	if len(Preds(in)) != 1 || !same(Calls(in), [][]int{{0}}) {
		t.Error("Preds, Calls", Preds(in), Calls(in))
	}
	in.Clauses = in.Clauses[:1]
	if !same(Calls(in), [][]int{{}}) {
		t.Error("a variable, a number calls", Calls(in))
	}
}

func TestComponents(t *testing.T) {
	for i, c := range []struct{ calls, want [][]int }{
		{[][]int{{1}, {2}, {1}, {}}, [][]int{{1, 2}, {0}, {3}}},
		{[][]int{{0}, {0}}, [][]int{{0}, {1}}},
		{nil, nil},
		{[][]int{{2}, {}, {}}, [][]int{{1}, {2}, {0}}},
		{[][]int{{3}, {}, {}, {}}, [][]int{{1}, {2}, {3}, {0}}},
		{[][]int{{4}, {3}, {}, {}, {}}, [][]int{{2}, {3}, {1}, {4}, {0}}},
		{[][]int{{1}, {2}, {0}}, [][]int{{0, 1, 2}}},
		{[][]int{{4, 4, 2}, {0}, {0, 9, -1}, {1}, {4}}, [][]int{{4}, {0, 2}, {1}, {3}}},
		{[][]int{{-5, 100, 1}, {1 << 40}}, [][]int{{1}, {0}}},
		{[][]int{{5}, {5}, {1}, {}, {3}, {0, 4}}, [][]int{{3}, {4}, {0, 5}, {1}, {2}}},
	} {
		if got := Components(c.calls); !same(got, c.want) {
			t.Error(i, got)
		}
	}
}

// reaches is what is reached from a place, by hand.
func reaches(calls [][]int, i int, seen map[int]int) {
	if seen[i] > 0 {
		return
	}
	seen[i] = 1
	for _, to := range calls[i] {
		reaches(calls, to, seen)
	}
}

func TestWhatFollows(t *testing.T) {
	n := uint32(1)
	for range 300 {
		calls := make([][]int, n>>16%8+1)
		for i := range calls {
			for range n >> 20 % 3 {
				n = n*1664525 + 1013904223
				calls[i] = append(calls[i], int(n>>16)%len(calls))
			}
			n = n*1664525 + 1013904223
		}
		place := map[int]int{}
		got := Components(calls)
		for c, l := range got {
			for _, i := range l {
				if place[i] > 0 {
					t.Fatal("twice", got)
				}
				place[i] = c + 1
			}
		}
		if len(place) != len(calls) {
			t.Fatal("not all", got)
		}
		for i := range calls {
			seen := map[int]int{}
			reaches(calls, i, seen)
			for j := range seen {
				back := map[int]int{}
				reaches(calls, j, back)
				if place[j] > place[i] || (place[i] == place[j]) != (back[i] > 0) {
					t.Fatal("components", calls, got)
				}
			}
		}
	}
}

func TestWhatIsHandedInStays(t *testing.T) {
	calls := [][]int{{1, 0, 1}, {0}}
	got := Components(calls)
	got[0][0] = 7
	if !same(calls, [][]int{{1, 0, 1}, {0}}) {
		t.Error("changed")
	}
}

func TestManyEnd(t *testing.T) {
	const n = 1 << 16
	calls := make([][]int, n)
	for i := range calls {
		calls[i] = []int{i + 1, i - 1}
	}
	if got := Components(calls); len(got) != 1 || len(got[0]) != n {
		t.Error("one component")
	}
	for i := range calls {
		calls[i] = []int{i + 1}
	}
	if got := Components(calls); len(got) != n || got[0][0] != n-1 {
		t.Error("a row")
	}
}
