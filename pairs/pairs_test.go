package pairs

import (
	"math"
	"slices"
	"testing"
)

// is makes pairs of numbers, two by two.
func is(l ...int) [][2]int {
	var r [][2]int
	for i := 0; i+1 < len(l); i += 2 {
		r = append(r, [2]int{l[i], l[i+1]})
	}
	return r
}

func TestExamples(t *testing.T) {
	if l := Of(is(3, 1, 1, 3, 2, 2)); !slices.Equal(l, is(1, 3)) {
		t.Error("Of", l)
	}
	if l := Related(is(1, 3, 3, 5), []int{3}); !slices.Equal(l, []int{1, 3, 5}) {
		t.Error("Related", l)
	}
	if l := Close(is(1, 3), []int{2, 4}); !slices.Equal(l, is(1, 3, 2, 4)) {
		t.Error("Close", l)
	}
	if l := Without(is(1, 3, 2, 4), []int{3}); !slices.Equal(l, is(2, 4)) {
		t.Error("Without", l)
	}
	if l := Rename(is(0, 1, 1, 2), []int{5, 3}); !slices.Equal(l, is(3, 5)) {
		t.Error("Rename", l)
	}
}

func TestOfHasUnionPlaces(t *testing.T) {
	l := is(5, 2, -1, 3, 2, 5, 4, 4, 0, 9, 3, -2, 0, 3, 2, 3, -1, -2)
	if got := Of(l); !slices.Equal(got, is(0, 3, 0, 9, 2, 3, 2, 5)) {
		t.Error("Of", got)
	}
	for _, p := range is(2, 5, 5, 2, 0, 9, 9, 0) {
		if !Has(l, p[0], p[1]) {
			t.Error("Has", p)
		}
	}
	for _, p := range is(-1, 3, 3, -1, 4, 4, 2, 2, 0, 2, 9, 3, -1, -2) {
		if Has(l, p[0], p[1]) {
			t.Error("Has not", p)
		}
	}
	if got := Union(is(4, 1, 0, 0), is(1, 4, -1, 2, 3, 2)); !slices.Equal(got, is(1, 4, 2, 3)) {
		t.Error("Union", got)
	}
	if got := Places([]int{4, -1, 0, 4, 2, math.MinInt, math.MaxInt}); !slices.Equal(got, []int{0, 2, 4, math.MaxInt}) {
		t.Error("Places", got)
	}
	if len(Of(nil))+len(Union(nil, nil))+len(Places(nil))+len(Related(nil, nil))+len(Close(nil, nil))+len(Without(nil, nil))+len(Rename(nil, nil)) != 0 {
		t.Error("of none")
	}
}

func TestRelatedCloseWithout(t *testing.T) {
	l := is(3, 1, 3, 5, 5, 7, 2, 2, -1, 3, 0, 9)
	for i, c := range []struct{ to, want []int }{
		{[]int{3}, []int{1, 3, 5}}, {[]int{1, 7}, []int{1, 3, 5, 7}}, {[]int{8, 8, -1}, []int{8}}, {[]int{-1}, nil}, {[]int{2}, []int{2}}, {nil, nil}, {[]int{9, 5}, []int{0, 3, 5, 7, 9}},
	} {
		if got := Related(l, c.to); !slices.Equal(got, c.want) {
			t.Error(i, got)
		}
	}
	if got := Close(is(9, 0), []int{4, -1, 2, 4, 7}); !slices.Equal(got, is(0, 9, 2, 4, 2, 7, 4, 7)) {
		t.Error("Close", got)
	}
	if got := Close(is(1, 0, 1, 1), []int{3}); !slices.Equal(got, is(0, 1)) {
		t.Error("Close over one", got)
	}
	if got := Without(l, []int{5, -1, 0}); !slices.Equal(got, is(1, 3)) {
		t.Error("Without", got)
	}
}

func TestRename(t *testing.T) {
	l := is(0, 1, 2, 0, 1, 2, 2, 3, 4, 0, -1, 1)
	for i, c := range []struct {
		to   []int
		want [][2]int
	}{
		{[]int{0, 1, 2, 3, 4}, is(0, 1, 0, 2, 0, 4, 1, 2, 2, 3)},
		{[]int{7, 5, 6}, is(5, 6, 5, 7, 6, 7)},
		{[]int{7, 7, 6}, is(6, 7)},
		{[]int{7, -1, 6, -2}, is(6, 7)},
		{nil, nil},
		{[]int{1}, nil},
	} {
		if got := Rename(l, c.to); !slices.Equal(got, c.want) {
			t.Error(i, got)
		}
	}
}

func TestWhatFollows(t *testing.T) {
	n := uint32(5)
	below := func(m int) int {
		n = n*1664525 + 1013904223
		return int(n>>16) % m
	}
	for range 500 {
		var l [][2]int
		for range below(12) {
			l = append(l, [2]int{below(9) - 1, below(9) - 1})
		}
		var a, b []int
		for range below(4) {
			a = append(a, below(9)-1)
		}
		b = append(slices.Clone(a), below(9)-1)
		closed := Close(l, a)
		for _, p := range Places(a) {
			for _, q := range Places(a) {
				if !slices.Contains(Related(closed, []int{p}), q) {
					t.Fatal("not related", closed, p, q)
				}
			}
		}
		more := Related(l, b)
		for _, p := range Related(l, a) {
			if !slices.Contains(more, p) {
				t.Fatal("related to more is not more", l, a, b)
			}
		}
		for _, p := range Union(l, closed) {
			if !Has(closed, p[1], p[0]) {
				t.Fatal("Close has not all pairs")
			}
		}
		for _, p := range Without(l, a) {
			if slices.Contains(a, p[0]) || slices.Contains(a, p[1]) || !Has(l, p[0], p[1]) {
				t.Fatal("Without", l, a)
			}
		}
	}
}

func TestArgumentsStay(t *testing.T) {
	room := is(3, 1, 2, 2, 0, 4, 9, 8)
	l := room[:3]
	to := []int{4, -1, 0, 3}[:3]
	Of(l)
	Has(l, 1, 3)
	Related(l, to)
	Close(l, to)
	Without(l, to)
	Rename(l, to)
	Places(to)
	_ = append(Union(l, nil), [2]int{7, 7})
	if !slices.Equal(room, is(3, 1, 2, 2, 0, 4, 9, 8)) || !slices.Equal(to[:4], []int{4, -1, 0, 3}) {
		t.Error("changed", room, to)
	}
}
