package emu

import (
	"resolvent/api"
	"resolvent/arith"
	"resolvent/builtin"
	"resolvent/code"
	"resolvent/subst"
)

// args are the Args of a structure that are still to come: these are read from a place, or written.
type args struct {
	left     int64
	place    int64 // of the next one, if it is read
	isWrite  bool
	whole    cell // what is written
	variable cell // what it is unified with, when all is written
	isGet    bool
	asks     bool
}

func (m *machine) getStruct(i *code.Instr) {
	c := m.follow(m.x[i.B])
	f := cell{tag: functor, name: i.Name, n: i.N}
	switch {
	case c.isVar() && i.Op != code.OpGetStructRead:
		m.write(f)
		m.args.isGet, m.args.variable, m.args.asks = true, c, !isSafe(i.Op)
	case c.tag == structure && i.Op != code.OpGetStructWrite && m.heap[c.n] == f:
		m.args = args{left: i.N, place: c.n + 1}
	default:
		m.fail()
	}
}

func (m *machine) putStruct(i *code.Instr) {
	m.write(cell{tag: functor, name: i.Name, n: i.N})
	m.x[i.A] = m.args.whole
}

// write begins a structure.
func (m *machine) write(f cell) {
	place := m.put(f)
	m.args = args{left: f.n, isWrite: true, whole: cell{tag: structure, n: int64(place)}}
}

// arg does the next Arg: it is read, or written; and what is written is unified when it is the last one.
func (m *machine) arg(read func(c cell) bool, write func()) {
	if m.args.left == 0 {
		m.fail()
		return
	}
	m.args.left--
	if !m.args.isWrite {
		m.args.place++
		m.failUnless(read(m.heap[m.args.place-1]))
		return
	}
	write()
	if a := m.args; a.left == 0 && a.isGet {
		m.failUnless(m.unify(a.variable, a.whole, a.asks))
	}
}

func (m *machine) unifyVar(i *code.Instr) {
	m.arg(func(c cell) bool {
		m.set(i.A, c)
		return true
	}, func() { m.set(i.A, m.variable()) })
}

func (m *machine) unifyVal(i *code.Instr) {
	m.arg(func(c cell) bool { return m.unify(m.register(i.A), c, !isSafe(i.Op)) },
		func() { m.put(m.settled(m.register(i.A))) })
}

func (m *machine) unifyConst(i *code.Instr) {
	k := constant(i.Kind, i.Name, i.N)
	m.arg(func(c cell) bool { return m.unify(c, k, true) }, func() { m.put(k) })
}

// builtin does a builtin of the first registers.
func (m *machine) builtin(i *code.Instr) {
	if i.N == 2 {
		switch i.Name {
		case "=":
			m.failUnless(m.unify(m.x[0], m.x[1], true))
			return
		case `\=`:
			m.failUnless(!m.tried(m.x[0], m.x[1]))
			return
		case "is":
			m.is()
			return
		}
	}
	_, ok, err := builtin.Do(subst.New(), m.goal(i))
	m.ended(ok, err)
}

// ended goes on, fails, or tells an error.
func (m *machine) ended(ok bool, err api.Errno) {
	switch {
	case err == api.ErrFull:
		panic(full{})
	case err != api.OK:
		m.end(api.Event{Kind: api.EvError, Code: err})
	default:
		m.failUnless(ok)
	}
}

// goal is a builtin's goal; what has one Arg looks at what that is, and no further.
func (m *machine) goal(i *code.Instr) api.Term {
	if i.N == 0 {
		return api.Term{Kind: api.Atom, Name: i.Name}
	}
	g := api.Term{Kind: api.Struct, Name: i.Name, Args: make([]api.Term, i.N)}
	for j := range g.Args {
		if i.N == 1 {
			g.Args[j] = m.top(m.follow(m.x[j]))
		} else {
			g.Args[j] = m.begun(m.x[j])
		}
	}
	return g
}

func (m *machine) is() {
	n, err := arith.Eval(subst.New(), m.begun(m.x[1]))
	if err != api.OK {
		m.ended(false, err)
		return
	}
	m.failUnless(m.unify(m.x[0], cell{tag: number, n: n}, true))
}

// tried tells whether two cells unify, and puts all back.
func (m *machine) tried(a, b cell) bool {
	var log []int
	m.log = &log
	trail := len(m.trail)
	ok := m.unify(a, b, true)
	m.log = nil
	for _, place := range log {
		m.heap[place] = cell{n: int64(place)}
	}
	m.trail = m.trail[:trail]
	return ok
}
