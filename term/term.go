// Package term is layer 1: finite terms. See shared/doc/01-term.md.
package term

import (
	"iter"

	"resolvent/api"
)

// Good tells whether a term is one that the other layers take as it is.
func Good(t api.Term) bool { return goodWithin(t, api.MaxDepth) }

// goodWithin stops at the first node that is too deep, so that even a great term that is no good is told soon.
func goodWithin(t api.Term, depth int) bool {
	if depth == 0 {
		return false
	}
	switch t.Kind {
	case api.Var:
		return t.N >= 0 && t.Name == "" && len(t.Args) == 0
	case api.Int:
		return t.Name == "" && len(t.Args) == 0
	case api.Atom:
		return t.N == 0 && len(t.Args) == 0 && goodName(t.Name)
	case api.Struct:
		if t.N != 0 || len(t.Args) == 0 || len(t.Args) > api.MaxArity || !goodName(t.Name) {
			return false
		}
		for _, a := range t.Args {
			if !goodWithin(a, depth-1) {
				return false
			}
		}
		return true
	}
	return false
}

func goodName(s string) bool {
	if len(s) > api.MaxName {
		return false
	}
	for i := range len(s) {
		if b := s[i]; (b < 32 || b > 126) && b != '\t' && b != '\n' {
			return false
		}
	}
	return true
}

// V is the variable of a number.
func V(n int64) api.Term { return api.Term{Kind: api.Var, N: n} }

// I is a number.
func I(n int64) api.Term { return api.Term{Kind: api.Int, N: n} }

// A is an atom.
func A(name string) api.Term { return api.Term{Kind: api.Atom, Name: name} }

// F is a structure; without args it is an atom.
func F(name string, args ...api.Term) api.Term {
	if len(args) == 0 {
		return A(name)
	}
	return api.Term{Kind: api.Struct, Name: name, Args: clones(args)}
}

// clones are terms that share no memory with those that they are like.
func clones(l []api.Term) []api.Term {
	if len(l) == 0 {
		return nil
	}
	r := make([]api.Term, len(l))
	for i, t := range l {
		t.Args = clones(t.Args)
		r[i] = t
	}
	return r
}

// Same tells whether two terms are alike, Arg by Arg.
func Same(a, b api.Term) bool {
	if a.Kind != b.Kind || a.Name != b.Name || a.N != b.N || len(a.Args) != len(b.Args) {
		return false
	}
	for i := range a.Args {
		if !Same(a.Args[i], b.Args[i]) {
			return false
		}
	}
	return true
}

// nodes goes through the nodes of terms, from the left to the right, a term ahead of its Args.
func nodes(l []api.Term) iter.Seq[api.Term] {
	return func(yield func(api.Term) bool) {
		waiting := [][]api.Term{l}
		for len(waiting) > 0 {
			last := len(waiting) - 1
			if len(waiting[last]) == 0 {
				waiting = waiting[:last]
				continue
			}
			t := waiting[last][0]
			waiting[last] = waiting[last][1:]
			if !yield(t) {
				return
			}
			waiting = append(waiting, t.Args)
		}
	}
}

// Size is how many nodes a term has.
func Size(t api.Term) int {
	n := 0
	for range nodes([]api.Term{t}) {
		n++
	}
	return n
}

// Depth is 1, or one more than the greatest depth of the Args.
func Depth(t api.Term) int {
	most := 0
	for _, a := range t.Args {
		most = max(most, Depth(a))
	}
	return 1 + most
}

// Vars are the numbers of the variables, in the order in which they first occur through all terms.
func Vars(l ...api.Term) []int64 {
	var r []int64
	seen := map[int64]struct{}{}
	for t := range nodes(l) {
		if t.Kind != api.Var {
			continue
		}
		if _, ok := seen[t.N]; !ok {
			seen[t.N] = struct{}{}
			r = append(r, t.N)
		}
	}
	return r
}

// Ground tells whether a term has no variable.
func Ground(t api.Term) bool {
	for n := range nodes([]api.Term{t}) {
		if n.Kind == api.Var {
			return false
		}
	}
	return true
}
