package pos

import (
	"slices"
	"strings"
)

// seeker looks for a choice of variables by which a function is false, its own ones being as sets of them.
type seeker struct {
	f     Func
	sets  []bits              // what each variable of f is as
	below []bits              // what is asked at each place and behind it
	none  map[string]struct{} // from what nothing was found
}

// bits is a set of small numbers.
type bits []uint64

func (b bits) with(c bits) bits {
	r := slices.Clone(b)
	for i := range r {
		r[i] |= c[i]
	}
	return r
}

func (b bits) without(c bits) bits {
	r := slices.Clone(b)
	for i := range r {
		r[i] &^= c[i]
	}
	return r
}

func (b bits) isIn(c bits) bool {
	for i := range b {
		if b[i]&^c[i] != 0 {
			return false
		}
	}
	return true
}

// text is another one of each set of one length.
func (b bits) text() string {
	r := make([]byte, 0, 8*len(b))
	for _, w := range b {
		for range 8 {
			r = append(r, byte(w))
			w >>= 8
		}
	}
	return string(r)
}

// Holds tells whether f is true whatever variables are true, its i-th one being as all of sets[i] together.
func (f Func) Holds(sets [][]int) bool {
	l := f.Vars()
	if len(l) > 0 && l[len(l)-1] >= len(sets) {
		return false
	}
	number := map[int]int{}
	for _, v := range l {
		for _, w := range variables(sets[v]) {
			if _, ok := number[w]; !ok {
				number[w] = len(number)
			}
		}
	}
	empty := make(bits, (len(number)+63)/64)
	s := &seeker{f: f, sets: make([]bits, len(sets)), none: map[string]struct{}{}}
	for _, v := range l {
		s.sets[v] = slices.Clone(empty)
		for _, w := range variables(sets[v]) {
			s.sets[v][number[w]/64] |= 1 << (number[w] % 64)
		}
	}
	s.below = []bits{empty, empty}
	for _, n := range f.nodes {
		s.below = append(s.below, s.sets[n.v].with(s.below[n.low]).with(s.below[n.high]))
	}
	return !s.isFalse(f.root, empty, nil)
}

// some goes about choices: whether one of them is so.
func some(choices ...func() bool) bool {
	for _, is := range choices {
		if is() {
			return true
		}
	}
	return false
}

// isFalse tells whether f may be false from a place on, all of on being true, and of each of open at least one being false.
func (s *seeker) isFalse(place int, on bits, open []bits) bool {
	if place < first {
		return place == no
	}
	on, open = s.relevant(place, on, open)
	key := s.key(place, on, open)
	if _, ok := s.none[key]; ok {
		return false
	}
	n := s.f.nodes[place-first]
	set := s.sets[n.v]
	found := some(
		func() bool {
			more := on.with(set)
			isShut := slices.ContainsFunc(open, func(b bits) bool { return b.isIn(more) })
			return !isShut && s.isFalse(n.high, more, open)
		},
		func() bool {
			return !set.isIn(on) && s.isFalse(n.low, on, append(slices.Clone(open), set))
		},
	)
	if !found {
		s.none[key] = struct{}{}
	}
	return found
}

// relevant leaves out what nothing that is still asked can change.
func (s *seeker) relevant(place int, on bits, open []bits) (bits, []bits) {
	var left []bits
	for _, b := range open {
		if rest := b.without(on); rest.isIn(s.below[place]) {
			left = append(left, rest)
		}
	}
	slices.SortFunc(left, func(a, b bits) int { return slices.Compare(a, b) })
	left = slices.CompactFunc(left, func(a, b bits) bool { return slices.Equal(a, b) })
	return on.without(on.without(s.below[place])), left
}

func (s *seeker) key(place int, on bits, open []bits) string {
	var b strings.Builder
	b.WriteString(bits{uint64(place)}.text() + on.text())
	for _, o := range open {
		b.WriteString(o.text())
	}
	return b.String()
}
