package emu

import (
	"slices"

	"resolvent/api"
	"resolvent/code"
)

// operations are what the operations do.
func operations() [code.OpUnifyValSafe + 1]func(*machine, *code.Instr) {
	return [...]func(*machine, *code.Instr){
		code.OpAllocate:       (*machine).allocate,
		code.OpDeallocate:     (*machine).deallocate,
		code.OpCall:           (*machine).call,
		code.OpExecute:        (*machine).execute,
		code.OpProceed:        (*machine).proceed,
		code.OpAnswer:         (*machine).answer,
		code.OpFail:           (*machine).doFail,
		code.OpCut:            (*machine).cut,
		code.OpBuiltin:        (*machine).builtin,
		code.OpTry:            (*machine).try,
		code.OpRetry:          (*machine).retry,
		code.OpTrust:          (*machine).trust,
		code.OpSwitch:         (*machine).doSwitch,
		code.OpSwitchBound:    (*machine).doSwitch,
		code.OpGetVar:         (*machine).getVar,
		code.OpGetVal:         (*machine).getVal,
		code.OpGetConst:       (*machine).getConst,
		code.OpGetStruct:      (*machine).getStruct,
		code.OpUnifyVar:       (*machine).unifyVar,
		code.OpUnifyVal:       (*machine).unifyVal,
		code.OpUnifyConst:     (*machine).unifyConst,
		code.OpPutVar:         (*machine).putVar,
		code.OpPutVal:         (*machine).putVal,
		code.OpPutConst:       (*machine).putConst,
		code.OpPutStruct:      (*machine).putStruct,
		code.OpGetConstRead:   (*machine).getConst,
		code.OpGetStructRead:  (*machine).getStruct,
		code.OpGetConstWrite:  (*machine).getConst,
		code.OpGetStructWrite: (*machine).getStruct,
		code.OpGetValSafe:     (*machine).getVal,
		code.OpUnifyValSafe:   (*machine).unifyVal,
	}
}

// isSafe tells whether an operation asks for no occurrence.
func isSafe(op code.Op) bool {
	return op == code.OpGetValSafe || op == code.OpUnifyValSafe || op == code.OpGetStructWrite
}

func (m *machine) allocate(i *code.Instr) {
	f := &frame{y: make([]cell, i.A), next: m.next, barrier: m.barrier, ahead: m.env, depth: 1}
	if m.env != nil {
		f.depth += m.env.depth
	}
	if f.depth > m.limits.Frames {
		panic(full{})
	}
	m.env = f
}

func (m *machine) deallocate(*code.Instr) {
	if m.env == nil {
		m.fail()
		return
	}
	m.next = m.env.next
	m.env = m.env.ahead
}

func (m *machine) call(i *code.Instr) {
	m.next = m.place
	m.execute(i)
}

func (m *machine) execute(i *code.Instr) {
	m.barrier = len(m.choices)
	m.place = i.A
}

func (m *machine) proceed(*code.Instr) { m.place = m.next }

func (m *machine) doFail(*code.Instr) { m.fail() }

func (m *machine) cut(*code.Instr) {
	if m.env == nil {
		m.fail()
		return
	}
	m.keep(min(m.env.barrier, len(m.choices)))
}

// keep keeps so many choices.
func (m *machine) keep(n int) {
	m.choices = m.choices[:n]
	m.mark = 0
	if n > 0 {
		m.mark = m.choices[n-1].heap
	}
}

func (m *machine) try(i *code.Instr) {
	if len(m.choices) >= m.limits.Choices {
		panic(full{})
	}
	c := choice{x: slices.Clone(m.x[:i.B]), env: m.env, next: m.next, barrier: m.barrier, trail: len(m.trail), heap: len(m.heap), place: m.place}
	m.choices = append(m.choices, c)
	m.mark = c.heap
	m.place = i.A
}

func (m *machine) retry(i *code.Instr) {
	if len(m.choices) == 0 {
		m.fail()
		return
	}
	m.choices[len(m.choices)-1].place = m.place
	m.place = i.A
}

func (m *machine) trust(i *code.Instr) {
	if len(m.choices) == 0 {
		m.fail()
		return
	}
	m.keep(len(m.choices) - 1)
	m.place = i.A
}

func (m *machine) doSwitch(i *code.Instr) {
	c := m.follow(m.x[0])
	if c.isVar() {
		if i.Op == code.OpSwitchBound {
			m.fail()
			return
		}
		m.place = i.A
		return
	}
	kind := uint8(api.Int)
	switch c.tag {
	case atom:
		kind = api.Atom
	case structure:
		kind = api.Struct
		c = m.heap[c.n]
	}
	at := slices.IndexFunc(i.Cases, func(d code.Case) bool {
		return d.Kind == kind && (kind == api.Int || d.Name == c.name) && (kind == api.Atom || d.N == c.n)
	})
	if at < 0 {
		m.fail()
		return
	}
	m.place = i.Cases[at].To
}

func (m *machine) getVar(i *code.Instr) { m.set(i.A, m.x[i.B]) }

func (m *machine) getVal(i *code.Instr) {
	m.failUnless(m.unify(m.register(i.A), m.x[i.B], !isSafe(i.Op)))
}

func (m *machine) getConst(i *code.Instr) {
	c := m.follow(m.x[i.B])
	if c.isVar() && i.Op == code.OpGetConstRead || !c.isVar() && i.Op == code.OpGetConstWrite {
		m.fail()
		return
	}
	m.failUnless(m.unify(c, constant(i.Kind, i.Name, i.N), i.Op == code.OpGetConst))
}

func (m *machine) putVar(i *code.Instr) {
	c := m.variable()
	m.set(i.A, c)
	m.x[i.B] = c
}

func (m *machine) putVal(i *code.Instr) { m.x[i.B] = m.register(i.A) }

func (m *machine) putConst(i *code.Instr) { m.x[i.B] = constant(i.Kind, i.Name, i.N) }
