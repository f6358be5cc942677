package emu

import "resolvent/api"

// What a cell is. The zero cell is a reference to place 0.
const (
	reference = iota
	number
	atom
	structure
	functor
)

// cell is a reference to the place n, a number n, an atom, a structure at the place n, or a functor of n Args.
type cell struct {
	tag  uint8
	name string
	n    int64
}

// store is the heap and the trail, with how much of them there may be.
type store struct {
	heap            []cell
	trail           []int
	most, mostTrail int
	mark            int // where the heap ended at the last choice
	visits          int // of the instruction that is done
	trailed         int // how many places were put on the trail
	log             *[]int
}

// constant is the cell of a number or an atom.
func constant(kind uint8, name string, n int64) cell {
	if kind == api.Int {
		return cell{tag: number, n: n}
	}
	return cell{tag: atom, name: name}
}

// put puts a cell on the heap, and tells its place.
func (s *store) put(c cell) int {
	if len(s.heap) >= s.most {
		panic(full{})
	}
	s.heap = append(s.heap, c)
	return len(s.heap) - 1
}

// variable puts a new variable on the heap.
func (s *store) variable() cell {
	c := cell{n: int64(len(s.heap))}
	s.put(c)
	return c
}

// isWhole tells whether there is a functor at a place, with all its Args.
func (s *store) isWhole(place int64) bool {
	if place < 0 || place >= int64(len(s.heap)) {
		return false
	}
	f := s.heap[place]
	return f.tag == functor && place+f.n < int64(len(s.heap))
}

// settled is a cell, or, if it refers to nothing that there is, a reference to place 0.
func (s *store) settled(c cell) cell {
	if c.tag == functor || c.tag == reference && c.n >= int64(len(s.heap)) || c.tag == structure && !s.isWhole(c.n) {
		return cell{}
	}
	return c
}

// follow is what a cell leads to: a variable (a reference to itself), a constant, or a structure.
func (s *store) follow(c cell) cell {
	c = s.settled(c)
	for c.tag == reference {
		to := s.heap[c.n]
		if to == c {
			return c
		}
		if c.n == 0 && s.settled(to) != to {
			return c
		}
		c = s.settled(to)
	}
	return c
}

// isVar tells of what follow told whether it is a variable.
func (c cell) isVar() bool { return c.tag == reference }

// visit counts one that a unification comes by.
func (s *store) visit() {
	s.visits++
	if s.visits > api.MaxWork {
		panic(full{})
	}
}

// bind binds the variable at a place.
func (s *store) bind(place int64, c cell) {
	s.heap[place] = c
	if s.log != nil {
		*s.log = append(*s.log, int(place))
	}
	if int(place) >= s.mark {
		return
	}
	if len(s.trail) >= s.mostTrail {
		panic(full{})
	}
	s.trail = append(s.trail, int(place))
	s.trailed++
}

// back makes what is on the trail behind its end variables again, and ends the heap.
func (s *store) back(trail, heap int) {
	for _, place := range s.trail[trail:] {
		s.heap[place] = cell{n: int64(place)}
	}
	s.trail = s.trail[:trail]
	s.heap = s.heap[:heap]
}

// pair is two cells that are to be unified.
type pair struct{ a, b cell }

// unify unifies two cells; if it does not ask, no variable occurs in what it is bound to.
func (s *store) unify(a, b cell, asks bool) bool {
	left := []pair{{a, b}}
	for len(left) > 0 {
		p := left[len(left)-1]
		left = left[:len(left)-1]
		s.visit()
		a, b := s.follow(p.a), s.follow(p.b)
		switch {
		case a.isVar() && b.isVar():
			if a.n < b.n {
				a, b = b, a
			}
			if a.n != b.n {
				s.bind(a.n, b)
			}
		case a.isVar():
			if asks && s.occurs(a.n, b) {
				return false
			}
			s.bind(a.n, b)
		case b.isVar():
			if asks && s.occurs(b.n, a) {
				return false
			}
			s.bind(b.n, a)
		case a.tag == structure && b.tag == structure:
			f := s.heap[a.n]
			if f != s.heap[b.n] {
				return false
			}
			for i := f.n; i > 0; i-- {
				left = append(left, pair{s.heap[a.n+i], s.heap[b.n+i]})
			}
		case a != b:
			return false
		}
	}
	return true
}

// occurs tells whether the variable at a place occurs in a cell.
func (s *store) occurs(place int64, c cell) bool {
	left := []cell{c}
	for len(left) > 0 {
		c := s.follow(left[len(left)-1])
		left = left[:len(left)-1]
		s.visit()
		if c.isVar() && c.n == place {
			return true
		}
		if c.tag == structure {
			for i := s.heap[c.n].n; i > 0; i-- {
				left = append(left, s.heap[c.n+i])
			}
		}
	}
	return false
}

// term is the term of a cell, its variables being numbered by their places.
func (s *store) term(c cell) api.Term {
	nodes := 0
	t := s.termWithin(c, &nodes)
	if nodes > api.MaxWork {
		panic(full{})
	}
	return t
}

// begun is the term of a cell as far as a builtin may look at it: of one that is too great there are still too many nodes.
func (s *store) begun(c cell) api.Term {
	nodes := 0
	return s.termWithin(c, &nodes)
}

// termWithin counts nodes, and goes into none behind the first one that is one too many: a cell may lead back to itself.
func (s *store) termWithin(c cell, nodes *int) api.Term {
	*nodes++
	if *nodes > api.MaxWork {
		return api.Term{Kind: api.Var}
	}
	c = s.follow(c)
	t := s.top(c)
	for i := range t.Args {
		t.Args[i] = s.termWithin(s.heap[c.n+1+int64(i)], nodes)
	}
	return t
}

// top is the term of what follow told, but for what its Args are.
func (s *store) top(c cell) api.Term {
	switch c.tag {
	case number:
		return api.Term{Kind: api.Int, N: c.n}
	case atom:
		return api.Term{Kind: api.Atom, Name: c.name}
	case structure:
		f := s.heap[c.n]
		return api.Term{Kind: api.Struct, Name: f.name, Args: make([]api.Term, f.n)}
	}
	return api.Term{Kind: api.Var, N: c.n}
}
