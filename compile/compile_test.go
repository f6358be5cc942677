package compile

import (
	"strconv"
	"strings"
	"testing"

	"resolvent/api"
	"resolvent/code"
	"resolvent/graph"
	"resolvent/sample"
	"resolvent/term"
)

// short tells an instruction in a word: its operation, and what it has.
func short(i code.Instr) string {
	num := strconv.Itoa
	constant := func(kind uint8, name string, n int64) string {
		if kind == api.Int {
			return num(int(n))
		}
		return name
	}
	fun := i.Name + "/" + num(int(i.N))
	switch i.Op {
	case code.OpAllocate:
		return "allocate " + num(i.A)
	case code.OpDeallocate:
		return "deallocate"
	case code.OpCall:
		return "call " + num(i.A) + " " + fun
	case code.OpExecute:
		return "execute " + num(i.A) + " " + fun
	case code.OpProceed:
		return "proceed"
	case code.OpAnswer:
		return "answer"
	case code.OpFail:
		return "fail"
	case code.OpCut:
		return "cut"
	case code.OpBuiltin:
		return "builtin " + fun
	case code.OpTry, code.OpRetry, code.OpTrust:
		return []string{"try", "retry", "trust"}[i.Op-code.OpTry] + " " + num(i.A) + " " + num(i.B)
	case code.OpSwitch, code.OpSwitchBound:
		s := []string{"switch", "bound"}[i.Op-code.OpSwitch] + " " + num(i.A)
		for _, c := range i.Cases {
			s += " " + constant(c.Kind, c.Name, c.N)
			if c.Kind == api.Struct {
				s += "/" + num(int(c.N))
			}
			s += ":" + num(c.To)
		}
		return s
	case code.OpGetVar, code.OpGetVal, code.OpPutVar, code.OpPutVal:
		return map[code.Op]string{code.OpGetVar: "getvar", code.OpGetVal: "getval", code.OpPutVar: "putvar", code.OpPutVal: "putval"}[i.Op] + " " + num(i.A) + " " + num(i.B)
	case code.OpGetConst, code.OpPutConst:
		return map[code.Op]string{code.OpGetConst: "getconst", code.OpPutConst: "putconst"}[i.Op] + " " + constant(i.Kind, i.Name, i.N) + " " + num(i.B)
	case code.OpGetConstRead:
		return "read " + constant(i.Kind, i.Name, i.N) + " " + num(i.B)
	case code.OpUnifyConst:
		return "const " + constant(i.Kind, i.Name, i.N)
	case code.OpUnifyVar:
		return "var " + num(i.A)
	case code.OpUnifyVal:
		return "val " + num(i.A)
	case code.OpGetStruct:
		return "getstruct " + fun + " " + num(i.B)
	case code.OpPutStruct:
		return "putstruct " + fun + " " + num(i.A)
	}
	return i.Text()
}

func told(c code.Code) string {
	var l []string
	for _, i := range c.Instrs {
		l = append(l, short(i))
	}
	return strings.TrimPrefix(strings.Join(l, "; "), "answer; fail; ")
}

func TestCompile(t *testing.T) {
	for text, want := range map[string]string{
		"":                                "answer; fail",
		"p(a).":                           "getconst a 0; proceed",
		"p(7,X,X,_).":                     "getconst 7 0; getvar 16 1; getval 16 2; getvar 17 3; proceed",
		"p(X):-q(X). q(1). q(2).":         "allocate 1; getvar -1 0; putval -1 0; deallocate; execute 7 q/1; switch 8 1:10 2:12; try 10 1; trust 12 1; getconst 1 0; proceed; getconst 2 0; proceed",
		"p.":                              "proceed",
		"p:-true.":                        "allocate 0; builtin true/0; deallocate; proceed",
		"p:-!.":                           "allocate 0; cut; deallocate; proceed",
		"p:-p,p.":                         "allocate 0; call 2 p/0; deallocate; execute 2 p/0",
		"p:-p,!.":                         "allocate 0; call 2 p/0; cut; deallocate; proceed",
		"p(X,f(Y,X,g(Z,a),h(3,k(Y)),Z)).": "getvar 16 0; getstruct f/5 1; var 17; val 16; var 48; var 49; var 18; getstruct g/2 48; val 18; const a; getstruct h/2 49; const 3; var 50; getstruct k/1 50; val 17; proceed",
		"p(f(g(a)),f(g(X))).":             "getstruct f/1 0; var 48; getstruct g/1 48; const a; getstruct f/1 1; var 49; getstruct g/1 49; var 16; proceed",
		"p:-X=f(g(Y,h(Y)),Z,k(1)),p.":     "allocate 3; putvar -1 0; putstruct h/1 49; var -2; putstruct g/2 48; val -2; val 49; putstruct k/1 50; const 1; putstruct f/3 1; val 48; var -3; val 50; builtin =/2; deallocate; execute 2 p/0",
		"p(X):-p(f(g(X))),p(f(g(a))).":    "allocate 1; getvar -1 0; putstruct g/1 48; val -1; putstruct f/1 0; val 48; call 2 p/1; putstruct g/1 48; const a; putstruct f/1 0; val 48; deallocate; execute 2 p/1",
		"p:-p(b,9). p(_,_).":              "allocate 0; putconst b 0; putconst 9 1; deallocate; execute 7 p/2; getvar 16 0; getvar 17 1; proceed",
		"p(a). p(b). p(a).":               "switch 3 a:6 b:10; try 8 1; retry 10 1; trust 12 1; try 8 1; trust 12 1; getconst a 0; proceed; getconst b 0; proceed; getconst a 0; proceed",
		"p. p.":                           "try 4 0; trust 5 0; proceed; proceed",
		"p. p. p.":                        "try 5 0; retry 6 0; trust 7 0; proceed; proceed; proceed",
		"p(a). p(X).":                     "try 4 1; trust 6 1; getconst a 0; proceed; getvar 16 0; proceed",
	} {
		c, err := Compile(sample.Load(t, text))
		if err != api.OK || c.Check() != api.OK || want != told(c) {
			t.Errorf("%s:\n%s\n%s", text, told(c), want)
		}
	}
}

func TestSwitch(t *testing.T) {
	c, _ := Compile(sample.Load(t, "p(f(_)). p(a). p(b). p(2). p(f(c)). p(f(_,_)). p(-1). p(a)."))
	s := c.Instrs[2]
	if len(s.Cases) != 6 || s.A != 3 {
		t.Fatal("cases", short(s))
	}
	// Behind the chain of all stand those of a and of f/1; the others are one alone.
	if c.Instrs[3].Op != code.OpTry || c.Instrs[10].Op != code.OpTrust {
		t.Error("the chain of all", told(c))
	}
	if s.Cases[2].Name != "a" || s.Cases[2].To != 11 || s.Cases[4].Name != "f" || s.Cases[4].To != 13 || s.Cases[4].N != 1 {
		t.Error("the chains of cases", short(s))
	}
	begin := c.Instrs[3].A
	if begin != 15 || c.Instrs[11].A != c.Instrs[4].A || c.Instrs[12].A != c.Instrs[10].A || c.Instrs[13].A != begin || c.Instrs[14].A != c.Instrs[7].A {
		t.Error("where they go", told(c))
	}
	if s.Cases[0].To != c.Instrs[9].A || s.Cases[1].To != c.Instrs[6].A || s.Cases[3].To != c.Instrs[5].A || s.Cases[5].To != c.Instrs[8].A {
		t.Error("one alone", short(s))
	}
	for i := 3; i < 15; i++ {
		if c.Instrs[i].B != 1 {
			t.Error("how many Args", i)
		}
	}
}

func TestEntries(t *testing.T) {
	p := sample.Load(t, "p:-q,q(1). q. q. q(1). q(2).")
	c, _ := Compile(p)
	if len(c.Entry) != 3 {
		t.Fatal("entries", c.Entry)
	}
	for _, q := range graph.Preds(p) {
		place, ok := c.Entry[q]
		if !ok {
			t.Error("no entry", q)
		}
		for _, i := range c.Instrs {
			if (i.Op == code.OpCall || i.Op == code.OpExecute) && i.Name == q.Name && i.N == int64(q.Arity) && i.A != place {
				t.Error("goes elsewhere", short(i))
			}
		}
	}
	if c.Instrs[0].Op != code.OpAnswer || c.Instrs[1].Op != code.OpFail {
		t.Error("the beginning")
	}
	for _, i := range c.Instrs {
		if i.Op > code.OpPutStruct || i.Op == code.OpSwitchBound {
			t.Error("a special operation", short(i))
		}
	}
}

func TestErrors(t *testing.T) {
	if c, err := Compile(sample.Load(t, "p:-q.")); err != api.ErrUndef || c.Instrs != nil || c.Entry != nil {
		t.Error("check's error", err)
	}
	if _, err := Compile(api.Program{Clauses: make([]api.Clause, 200)}); err != api.ErrLong {
		t.Error("check's error", err)
	}
	// 16 structures of 12, and of 13, others: 208 registers there are, 48 to 255.
	args := func(n int) []api.Term {
		var l []api.Term
		for range 16 {
			var m []api.Term
			for range n {
				m = append(m, term.F("g", term.A("a")))
			}
			l = append(l, term.F("f", m...))
		}
		return l
	}
	head := func(l []api.Term) api.Program { return api.Program{Clauses: []api.Clause{{Head: term.F("p", l...)}}} }
	goal := func(l []api.Term) api.Program {
		return api.Program{Clauses: []api.Clause{{Head: term.A("p"), Body: []api.Term{term.F("p", l...)}}, {Head: term.F("p", make16()...), Vars: 16}}}
	}
	most := args(13)
	more := args(13)
	more[3].Args = append(more[3].Args, term.F("g", term.A("a")))
	for i, p := range []api.Program{head(most), goal(most)} {
		if c, err := Compile(p); err != api.OK || c.Check() != api.OK {
			t.Error("208 spare registers", i, err)
		}
	}
	for i, p := range []api.Program{head(more), goal(more)} {
		if c, err := Compile(p); err != api.ErrLong || c.Instrs != nil || c.Entry != nil {
			t.Error("one register more", i, err)
		}
	}
	long := api.Program{}
	for range 100 {
		c := api.Clause{Head: term.A("p")}
		for range 12 {
			c.Body = append(c.Body, term.F("=", term.F("f", make16()...), term.A("a")))
		}
		c.Vars = 16
		long.Clauses = append(long.Clauses, c)
	}
	if c, err := Compile(long); err != api.ErrLong || c.Instrs != nil {
		t.Error("more than MaxCode instructions", err)
	}
}

// make16 are sixteen variables.
func make16() []api.Term {
	var l []api.Term
	for i := range int64(16) {
		l = append(l, term.V(i))
	}
	return l
}

func TestMaxCode(t *testing.T) {
	// Each such goal is 35 instructions, each goal true one.
	wide := term.F("=", term.F("f", make16()...), term.F("f", make16()...))
	p := api.Program{}
	for range 16 {
		c := api.Clause{Head: term.A("p"), Vars: 16}
		for range 29 {
			c.Body = append(c.Body, wide)
		}
		p.Clauses = append(p.Clauses, c)
	}
	count := func() int {
		c, err := Compile(p)
		if err != api.OK || c.Check() != api.OK {
			t.Fatal("no code", err)
		}
		return len(c.Instrs)
	}
	for i := 0; count() < code.MaxCode; i++ {
		missing := code.MaxCode - count()
		if missing > 60 {
			p.Clauses = append(p.Clauses, api.Clause{Head: term.A("q"), Body: []api.Term{wide}, Vars: 16})
		} else {
			c := &p.Clauses[len(p.Clauses)-1-i%16]
			c.Body = append(c.Body, term.A("true"))
		}
	}
	if n := count(); n != code.MaxCode {
		t.Fatal("the test's program", n)
	}
	c := &p.Clauses[len(p.Clauses)-1]
	c.Body = append(c.Body, term.A("true"))
	if c, err := Compile(p); err != api.ErrLong || c.Instrs != nil || c.Entry != nil {
		t.Error("one instruction more", err)
	}
}

func TestWith(t *testing.T) {
	p := sample.Load(t, "p(X,f(Y,g(X)),a):-q(X,f(Y)),!. q(a,_). q(b,_). r(1). r(2).")
	var seen []string
	a := Advice{
		Get: func(clause, arg int, i code.Instr) code.Instr {
			seen = append(seen, strconv.Itoa(clause)+strconv.Itoa(arg)+" "+short(i))
			if i.Op == code.OpGetConst {
				i.Op = code.OpGetConstRead
			}
			return i
		},
		Bound: func(q api.Pred) bool { return q.Name == "q" },
	}
	plain, _ := Compile(p)
	c, err := With(p, a)
	if err != api.OK || c.Check() != api.OK {
		t.Fatal("With", err)
	}
	want := "00 getvar -1 0; 01 getstruct f/2 1; 01 var -2; 01 var 48; 01 getstruct g/1 48; 01 val -1; 02 getconst a 2; 10 getconst a 0; 11 getvar 16 1; 20 getconst b 0; 21 getvar 16 1; 30 getconst 1 0; 40 getconst 2 0"
	if strings.Join(seen, "; ") != want {
		t.Error("what Get is asked", strings.Join(seen, "; "))
	}
	whole := "allocate 2; getvar -1 0; getstruct f/2 1; var -2; var 48; getstruct g/1 48; val -1; read a 2; putval -1 0; putstruct f/1 1; val -2; call 17 q/2; cut; deallocate; proceed; " +
		"bound -1 a:18 b:21; read a 0; getvar 16 1; proceed; read b 0; getvar 16 1; proceed; " +
		"switch 25 1:27 2:29; try 27 1; trust 29 1; read 1 0; proceed; read 2 0; proceed"
	if told(c) != whole {
		t.Error("the code", told(c))
	}
	if c, err := With(p, Advice{}); err != api.OK || told(c) != told(plain) {
		t.Error("without functions")
	}
	if _, err := With(sample.Load(t, "p:-q."), a); err != api.ErrUndef {
		t.Error("check's error")
	}
}

func TestBound(t *testing.T) {
	// What stands behind OpSwitchBound: the chains of its cases that are not one alone, and the clauses' codes.
	for text, want := range map[string]string{
		"p(a). p(b).":                         "bound -1 a:3 b:5; getconst a 0; proceed; getconst b 0; proceed",
		"p(a). p(b). p(a).":                   "bound -1 a:3 b:7; try 5 1; trust 9 1; getconst a 0; proceed; getconst b 0; proceed; getconst a 0; proceed",
		"p(a). p(a).":                         "bound -1 a:3; try 5 1; trust 7 1; getconst a 0; proceed; getconst a 0; proceed",
		"p(f(_)). p(2). p(f(1)). p(2). p(a).": "bound -1 2:3 a:17 f/1:5; try 10 1; trust 15 1; try 7 1; trust 12 1; getstruct f/1 0; var 16; proceed; getconst 2 0; proceed; getstruct f/1 0; const 1; proceed; getconst 2 0; proceed; getconst a 0; proceed",
		"p(a). p(X).":                         "try 4 1; trust 6 1; getconst a 0; proceed; getvar 16 0; proceed",
		"p(a).":                               "getconst a 0; proceed",
		"p. p.":                               "try 4 0; trust 5 0; proceed; proceed",
		"q(1). q(2). p(a):-q(1). p(b):-p(a).": "switch 3 1:5 2:7; try 5 1; trust 7 1; getconst 1 0; proceed; getconst 2 0; proceed; " +
			"bound -1 a:10 b:15; allocate 0; getconst a 0; putconst 1 0; deallocate; execute 2 q/1; allocate 0; getconst b 0; putconst a 0; deallocate; execute 9 p/1",
	} {
		p := sample.Load(t, text)
		plain, _ := Compile(p)
		c, err := With(p, Advice{Bound: func(q api.Pred) bool { return q.Name == "p" }})
		if err != api.OK || c.Check() != api.OK || told(c) != want || len(c.Entry) != len(plain.Entry) {
			t.Errorf("%s:\n%s\n%s", text, told(c), want)
		}
		for i, x := range c.Instrs {
			if i > 1 && reached(c)[i] == 0 {
				t.Error(text, "nothing goes to", i, short(x))
			}
		}
	}
}

// reached are the places to which something goes, each with how often.
func reached(c code.Code) map[int]int {
	r := map[int]int{}
	for _, place := range c.Entry {
		r[place]++
	}
	for i, x := range c.Instrs {
		switch x.Op {
		case code.OpTry, code.OpRetry, code.OpTrust, code.OpSwitch:
			r[x.A]++
		}
		for _, d := range x.Cases {
			r[d.To]++
		}
		if !x.Ends() {
			r[i+1]++
		}
	}
	return r
}

func TestBoundIsNotTooLong(t *testing.T) {
	// Without the chain of all there is room for as many instructions more as that has.
	p := api.Program{}
	wide := term.F("=", term.F("f", make16()...), term.F("f", make16()...))
	for i := range 120 {
		c := api.Clause{Head: term.F("p", term.I(int64(i))), Vars: 16}
		for range 3 {
			c.Body = append(c.Body, wide)
		}
		p.Clauses = append(p.Clauses, c)
	}
	bound := Advice{Bound: func(api.Pred) bool { return true }}
	count := func() int {
		c, err := With(p, bound)
		if err != api.OK || c.Check() != api.OK {
			t.Fatal("no code", err)
		}
		return len(c.Instrs)
	}
	for i := 0; count() < code.MaxCode; i++ {
		c := &p.Clauses[i%120]
		if code.MaxCode-count() >= 35 {
			c.Body = append(c.Body, wide)
		} else {
			c.Body = append(c.Body, term.A("true"))
		}
	}
	if n := count(); n != code.MaxCode {
		t.Fatal("the test's program", n)
	}
	if _, err := Compile(p); err != api.ErrLong {
		t.Error("with the chain of all it is too long", err)
	}
	p.Clauses[0].Body = append(p.Clauses[0].Body, term.A("true"))
	if c, err := With(p, bound); err != api.ErrLong || c.Instrs != nil || c.Entry != nil {
		t.Error("one instruction more", err)
	}
}

func TestAnyProgramMayBeRun(t *testing.T) {
	heads := []string{"p(X,Y)", "p(a,Z)", "p([X|Y],f(X))", "p(1,1)", "q(X)", "q(f(X,X))", "q(b)", "r"}
	goals := []string{"p(X,f(Y,[Z|W]))", "q(g(g(X)))", "r", "!", "X=f(Y)", "Z is X+1", "\\+ q(Y)", "(q(X);r)", "true"}
	n := uint32(4)
	for range 300 {
		b := "p(_,_). q(_). r."
		for range 1 + n>>9%8 {
			n = n*1664525 + 1013904223
			b += " " + heads[n>>16%8] + ":- " + goals[n>>20%9]
			for range n >> 24 % 4 {
				n = n*1664525 + 1013904223
				b += "," + goals[n>>16%9]
			}
			b += "."
		}
		n = n*1664525 + 1013904223
		p := sample.Load(t, b)
		c, err := Compile(p)
		if err != api.OK || c.Check() != api.OK || len(c.Entry) != len(graph.Preds(p)) {
			t.Fatal(b, err)
		}
	}
}
