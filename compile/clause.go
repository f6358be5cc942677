package compile

import (
	"slices"

	"resolvent/api"
	"resolvent/check"
	"resolvent/code"
	"resolvent/graph"
)

// writer writes one clause; what it writes goes behind all that is written.
type writer struct {
	*whole
	number int
	c      api.Clause
	named  map[int64]struct{} // the variables that an instruction has named
	spare  int
	arg    int // which one of the head's Args is written, -1 of none
}

// clause puts a clause's code.
func (w *whole) clause(i int) {
	c := &writer{whole: w, number: i, c: w.p.Clauses[i], named: map[int64]struct{}{}, arg: -1}
	if len(c.c.Body) == 0 {
		c.head()
		c.put(code.Instr{Op: code.OpProceed})
		return
	}
	c.put(code.Instr{Op: code.OpAllocate, A: c.c.Vars})
	c.head()
	isJump := false
	for j, g := range c.c.Body {
		isJump = c.goal(g, j == len(c.c.Body)-1)
	}
	if !isJump {
		c.put(code.Instr{Op: code.OpDeallocate})
		c.put(code.Instr{Op: code.OpProceed})
	}
}

// emit puts an instruction; that of a head's Arg is what the advice tells for it.
func (c *writer) emit(i code.Instr) {
	if c.arg >= 0 && c.advice.Get != nil {
		i = c.advice.Get(c.number, c.arg, i)
		i.Cases = slices.Clone(i.Cases)
	}
	c.put(i)
}

// register is a variable's register.
func (c *writer) register(v int64) int {
	if len(c.c.Body) == 0 {
		return firstVar + int(v)
	}
	return -1 - int(v)
}

// name names a variable: the operation is fresh, if it is new, else known.
func (c *writer) name(v int64, fresh, known code.Op) (code.Op, int) {
	op := known
	if _, ok := c.named[v]; !ok {
		c.named[v] = struct{}{}
		op = fresh
	}
	return op, c.register(v)
}

// next is the next spare register.
func (c *writer) next() int {
	c.spare++
	if c.spare > api.MaxRegs {
		c.isLong = true
	}
	return c.spare - 1
}

// waiting is a structure that is to be written by its register.
type waiting struct {
	t  api.Term
	by int
}

// head puts the head's Args.
func (c *writer) head() {
	c.spare = firstSpare
	for i, t := range c.c.Head.Args {
		c.arg = i
		switch t.Kind {
		case api.Var:
			op, r := c.name(t.N, code.OpGetVar, code.OpGetVal)
			c.emit(code.Instr{Op: op, A: r, B: i})
		case api.Struct:
			c.get(waiting{t, i})
		default:
			c.emit(code.Instr{Op: code.OpGetConst, B: i, Kind: t.Kind, Name: t.Name, N: t.N})
		}
	}
	c.arg = -1
}

// get puts a structure of the head, and then those within it, each behind all that wait.
func (c *writer) get(first waiting) {
	queue := []waiting{first}
	for len(queue) > 0 {
		s := queue[0]
		queue = queue[1:]
		c.emit(code.Instr{Op: code.OpGetStruct, B: s.by, Name: s.t.Name, N: int64(len(s.t.Args))})
		c.args(s.t.Args, func(t api.Term) code.Instr {
			r := c.next()
			queue = append(queue, waiting{t, r})
			return code.Instr{Op: code.OpUnifyVar, A: r}
		})
	}
}

// args puts a structure's Args; what stands for one that is a structure is told by within.
func (c *writer) args(l []api.Term, within func(t api.Term) code.Instr) {
	for _, t := range l {
		switch t.Kind {
		case api.Var:
			op, r := c.name(t.N, code.OpUnifyVar, code.OpUnifyVal)
			c.emit(code.Instr{Op: op, A: r})
		case api.Struct:
			c.emit(within(t))
		default:
			c.emit(code.Instr{Op: code.OpUnifyConst, Kind: t.Kind, Name: t.Name, N: t.N})
		}
	}
}

// goal puts a goal, and tells whether it is the last one and goes on elsewhere.
func (c *writer) goal(g api.Term, isLast bool) bool {
	p := graph.Of(g)
	if p == (api.Pred{Name: "!"}) {
		c.put(code.Instr{Op: code.OpCut})
		return false
	}
	c.spare = firstSpare
	for i, t := range g.Args {
		switch t.Kind {
		case api.Var:
			op, r := c.name(t.N, code.OpPutVar, code.OpPutVal)
			c.put(code.Instr{Op: op, A: r, B: i})
		case api.Struct:
			c.build(t, i)
		default:
			c.put(code.Instr{Op: code.OpPutConst, B: i, Kind: t.Kind, Name: t.Name, N: t.N})
		}
	}
	switch {
	case check.Builtin(p):
		c.put(code.Instr{Op: code.OpBuiltin, Name: p.Name, N: int64(p.Arity)})
		return false
	case isLast:
		c.put(code.Instr{Op: code.OpDeallocate})
		c.jump(code.OpExecute, p)
		return true
	}
	c.jump(code.OpCall, p)
	return false
}

// build puts what makes a structure in a register: ahead of it those within it.
func (c *writer) build(t api.Term, into int) {
	var within []int
	for _, a := range t.Args {
		if a.Kind == api.Struct {
			r := c.next()
			within = append(within, r)
			c.build(a, r)
		}
	}
	c.put(code.Instr{Op: code.OpPutStruct, A: into, Name: t.Name, N: int64(len(t.Args))})
	c.args(t.Args, func(api.Term) code.Instr {
		r := within[0]
		within = within[1:]
		return code.Instr{Op: code.OpUnifyVal, A: r}
	})
}
