package special

import (
	"reflect"
	"slices"
	"strings"
	"testing"

	"resolvent/analyse"
	"resolvent/api"
	"resolvent/code"
	"resolvent/compile"
	"resolvent/desc"
	"resolvent/emu"
	"resolvent/sample"
	"resolvent/term"
)

var roomy = emu.Limits{Fuel: 20000, Heap: 1 << 16, Trail: 1 << 16, Choices: 1 << 16, Frames: 1 << 16}

// withoutChains is plain code, but for the switches of predicates that are called with a first Arg that is bound: these have no place of a variable, and the chain to which that goes is not there.
func withoutChains(plain code.Code, bound func(p api.Pred) bool) code.Code {
	switches, gone := map[int]int{}, map[int]int{}
	for p, at := range plain.Entry {
		if plain.Instrs[at].Op != code.OpSwitch || !bound(p) {
			continue
		}
		switches[at]++
		for j := at + 1; isOfChain(plain.Instrs[j]); j++ {
			gone[j]++
			if plain.Instrs[j].Op == code.OpTrust {
				break
			}
		}
	}
	to := make([]int, len(plain.Instrs))
	for i := 1; i < len(to); i++ {
		to[i] = to[i-1] + 1 - gone[i-1]
	}
	r := code.Code{Entry: map[api.Pred]int{}}
	for p, at := range plain.Entry {
		r.Entry[p] = to[at]
	}
	for i, x := range plain.Instrs {
		switch x.Op {
		case code.OpCall, code.OpExecute, code.OpTry, code.OpRetry, code.OpTrust, code.OpSwitch:
			x.A = to[x.A]
		}
		x.Cases = slices.Clone(x.Cases)
		for j := range x.Cases {
			x.Cases[j].To = to[x.Cases[j].To]
		}
		if switches[i] > 0 {
			x.Op, x.A = code.OpSwitchBound, -1
		}
		if gone[i] == 0 {
			r.Instrs = append(r.Instrs, x)
		}
	}
	return r
}

// both are a program's plain code and its special one, which is the plain one without some chains, and with other operations.
func both(t *testing.T, text string) (code.Code, code.Code, api.Program) {
	p := sample.Load(t, text)
	plain, err := compile.Compile(p)
	if err != api.OK {
		t.Fatal(text, err)
	}
	special, err := Compile(p, p.Entries[0])
	if err != api.OK || special.Check() != api.OK || len(special.Instrs) > len(plain.Instrs) {
		t.Fatal(text, err)
	}
	table, _ := analyse.Analyse(p, p.Entries[0])
	want := withoutChains(plain, func(p api.Pred) bool { return table.Call(p).Type(0).Nonvar() || table.Call(p).Ground().Entails(0) })
	if !reflect.DeepEqual(special.Entry, want.Entry) || len(special.Instrs) != len(want.Instrs) {
		t.Fatal(text, "another code", len(special.Instrs), len(want.Instrs))
	}
	for i, x := range want.Instrs {
		if x.Op != code.OpSwitchBound {
			x.Op = special.Instrs[i].Op
		}
		if x.Text() != special.Instrs[i].Text() {
			t.Fatal(text, "another instruction", x.Text(), special.Instrs[i].Text())
		}
	}
	return plain, special, p
}

// isOfChain tells whether an operation is one of a chain of clauses.
func isOfChain(i code.Instr) bool {
	return i.Op == code.OpTry || i.Op == code.OpRetry || i.Op == code.OpTrust
}

// turned are the operations that are other ones, as the plain one and the special one.
func turned(t *testing.T, text string) string {
	names := map[code.Op]string{code.OpGetConst: "const", code.OpGetConstRead: "read", code.OpGetConstWrite: "write", code.OpGetStruct: "struct", code.OpGetStructRead: "read", code.OpGetStructWrite: "write",
		code.OpGetVal: "val", code.OpGetValSafe: "safe", code.OpUnifyVal: "unify", code.OpUnifyValSafe: "safe", code.OpSwitch: "switch", code.OpSwitchBound: "bound"}
	plain, special, _ := both(t, text)
	// Both are alike, one by one, but for the chains.
	a, b := slices.DeleteFunc(plain.Instrs, isOfChain), slices.DeleteFunc(special.Instrs, isOfChain)
	if len(a) != len(b) {
		t.Fatal(text, "another number of instructions", len(a), len(b))
	}
	var l []string
	for i, x := range a {
		name, ok := names[x.Op]
		if ok && x.Op != b[i].Op {
			name += "-" + names[b[i].Op]
		}
		if ok {
			l = append(l, name)
		} else if x.Op != b[i].Op {
			t.Error(text, "another operation", x.Text(), b[i].Text())
		}
	}
	return strings.Join(l, " ")
}

func TestOperationsOfApp(t *testing.T) {
	_, c, _ := both(t, sample.App+":-entry(app(ground,ground,free)).")
	want := []code.Op{
		code.OpAnswer, code.OpFail, code.OpSwitchBound, code.OpGetConstRead, code.OpGetVar, code.OpGetValSafe, code.OpProceed,
		code.OpAllocate, code.OpGetStructRead, code.OpUnifyVar, code.OpUnifyVar, code.OpGetVar, code.OpGetStructWrite, code.OpUnifyValSafe, code.OpUnifyVar,
		code.OpPutVal, code.OpPutVal, code.OpPutVal, code.OpDeallocate, code.OpExecute,
	}
	var got []code.Op
	for _, i := range c.Instrs {
		got = append(got, i.Op)
	}
	if !slices.Equal(got, want) || c.Instrs[2].A != -1 || c.Instrs[2].Cases[0].To != 3 || c.Instrs[2].Cases[1].To != 7 || c.Instrs[19].A != 2 {
		t.Error("app's code", got)
	}
}

func TestChainsOfSwitches(t *testing.T) {
	for text, want := range map[string]int{
		"p(a). p(b). p(a). :-entry(p(any)).":                           5, // that of all, and a's
		"p(a). p(b). p(a). :-entry(p(free)).":                          5,
		"p(a). p(b). p(a). :-entry(p(atom)).":                          2, // a's alone
		"p(a). p(b). :-entry(p(atom)).":                                0,
		"p(a). p(a). :-entry(p(ground)).":                              2, // a's is of all, and stays
		"p(a). p(X). :-entry(p(ground)).":                              2, // no switch
		"p. p. :-entry(p).":                                            2,
		"p(a,1). p(b,1):-q(X). q(f(_)). q(b). :-entry(p(any,any)).":    4, // q's first Arg is free
		"p(a,1). p(b,1):-q(f(X)). q(f(_)). q(b). :-entry(p(any,any)).": 2,
		"p(a). q(a). q(b). :-entry(p(any)).":                           0, // q is never called
	} {
		_, c, _ := both(t, text)
		n := 0
		for _, i := range c.Instrs {
			if isOfChain(i) {
				n++
			}
		}
		if n != want {
			t.Error(text, n)
		}
	}
}

func TestCompile(t *testing.T) {
	for text, want := range map[string]string{
		sample.App + ":-entry(app(ground,ground,free)).":            "switch-bound const-read val-safe struct-read struct-write unify-safe",
		sample.App + ":-entry(app(any,any,any)).":                   "switch const val struct struct unify",
		sample.App + ":-entry(app(free,free,ground)).":              "switch const val-safe struct struct-read unify",
		"p(a). p(b). :-entry(p(any)).":                              "switch const const",
		"p(a). p(b). :-entry(p(free)).":                             "switch const-write const-write",
		"p(a). p(b). :-entry(p(atom)).":                             "switch-bound const-read const-read",
		"p(a,f(X),X). :-entry(p(integer,ground,any)).":              "const-read struct-read val-safe",
		"p(f(X)). :-entry(p(free)).":                                "struct-write",
		"p(f(g(X,a))). :-entry(p(ground)).":                         "struct-read struct",
		"p(X,f(X)). :-entry(p(free,free)).":                         "struct-write unify",
		"p(X,f(X)). :-entry(p(any,free)).":                          "struct-write unify",
		"p(X,f(X)). :-entry(p(any,any)).":                           "struct unify",
		"p(X,f(X)). :-entry(p(ground,any)).":                        "struct unify-safe",
		"p(X,X). :-entry(p(any,free)).":                             "val-safe",
		"p(X,X). :-entry(p(free,any)).":                             "val-safe",
		"p(X,X). :-entry(p(any,any)).":                              "val",
		"p(X,X). :-entry(p(any,atom)).":                             "val-safe",
		"p(X):-q(X,f(X)). q(Y,Y). :-entry(p(free)).":                "unify val",
		"p(f(X),Y,f(X)):-q. q. :-entry(p(free,any,free)).":          "struct-write struct-write unify",
		"p(X):-X=f(Y),q(X,Z). q(f(a),f(_)). r(a). :-entry(p(any)).": "struct-read struct-write const-read",
	} {
		if got := turned(t, text); got != want {
			t.Errorf("%s:\n%s\n%s", text, got, want)
		}
	}
}

func TestErrors(t *testing.T) {
	p := sample.Load(t, "p(X):-q. q. :-entry(p(any)).")
	for i, c := range []struct {
		p   api.Program
		e   api.Entry
		err api.Errno
	}{
		{sample.Load(t, "p:-q."), api.Entry{Name: "p"}, api.ErrUndef}, {api.Program{Clauses: make([]api.Clause, 300)}, api.Entry{}, api.ErrLong},
		{p, api.Entry{Name: "p"}, api.ErrUndef}, {p, api.Entry{Name: "p", Modes: []uint8{9}}, api.ErrArg}, {p, p.Entries[0], api.OK}, {p, api.Entry{Name: "q"}, api.OK},
	} {
		if cd, err := Compile(c.p, c.e); err != c.err || err != api.OK && (cd.Instrs != nil || cd.Entry != nil) {
			t.Error(i, err)
		}
	}
	long := api.Program{}
	var l []api.Term
	for range 16 {
		var m []api.Term
		for range 14 {
			m = append(m, term.F("g", term.A("a")))
		}
		l = append(l, term.F("f", m...))
	}
	long.Clauses = []api.Clause{{Head: term.F("p", l...)}}
	if _, err := Compile(long, api.Entry{Name: "p", Modes: make([]uint8, 16)}); err != api.ErrLong {
		t.Error("compile's error", err)
	}
	_, special, _ := both(t, "p(a,_). :-entry(p(ground,free)).")
	e := api.Entry{Name: "p", Modes: []uint8{api.ModeGround, api.ModeFree}}
	for i, c := range []struct {
		e   api.Entry
		q   string
		l   emu.Limits
		err api.Errno
	}{
		{e, "p(a,X)", roomy, api.OK}, {e, "p(X,Y)", roomy, api.ErrPattern}, {e, "p(X,Y)", emu.Limits{Fuel: -1}, api.ErrPattern}, {e, "X", roomy, api.ErrForm}, {e, "q(a,X)", roomy, api.ErrPattern},
		{api.Entry{Name: "p", Modes: []uint8{8}}, "p(a,X)", roomy, api.ErrArg}, {e, "p(a,X)", emu.Limits{Fuel: -1}, api.ErrArg}, {api.Entry{Name: "r"}, "r", roomy, api.ErrUndef},
	} {
		r, err := Run(special, c.e, sample.Query(t, c.q), c.l)
		if err != c.err || err != api.OK && (r.Events != nil || r.Steps != 0) {
			t.Error(i, err)
		}
	}
	if _, err := Run(code.Code{}, e, sample.Query(t, "p(a,X)"), roomy); err != api.ErrCode {
		t.Error("emu's error", err)
	}
}

func ends(l []api.Event) bool {
	k := l[len(l)-1].Kind
	return k == api.EvEnd || k == api.EvError
}

// agree tells whether a run of special code is as that of the plain one.
func agree(plain, special emu.Result) bool {
	a, b := plain.Events, special.Events
	n := min(len(a), len(b)) - 1
	for i := range n {
		if !reflect.DeepEqual(a[i], b[i]) {
			return false
		}
	}
	if ends(a) && ends(b) {
		return reflect.DeepEqual(a, b) && special.Steps <= plain.Steps && special.Trail <= plain.Trail
	}
	// One that ends by itself has all.
	return !(ends(a) && len(b) > len(a)) && !(ends(b) && len(a) > len(b))
}

func TestAnsweredAsByThePlainOne(t *testing.T) {
	n := sample.Numbers(1)
	within, specials := 0, 0
	for range 700 {
		text := n.Program()
		plain, special, p := both(t, text)
		for _, i := range special.Instrs {
			if i.Op > code.OpPutStruct {
				specials++
			}
		}
		e := p.Entries[0]
		for range 8 {
			q := sample.Query(t, n.Query())
			if !desc.Entry(e.Modes).In(q.Args) {
				if r, err := Run(special, e, q, roomy); err != api.ErrPattern || r.Steps != 0 {
					t.Fatal("outside of the entry", text, err)
				}
				continue
			}
			within++
			limits := []emu.Limits{
				{Fuel: 600, Heap: 4000, Trail: 4000, Choices: 4000, Frames: 4000},
				{Fuel: n.Below(100), Heap: n.Below(50), Trail: n.Below(20), Choices: n.Below(10), Frames: n.Below(10)},
			}
			for _, l := range limits {
				a, err := emu.Run(plain, q, l)
				if err != api.OK {
					t.Fatal(err)
				}
				b, err := Run(special, e, q, l)
				if err != api.OK || !agree(a, b) {
					t.Fatal(text, q, a, b)
				}
			}
		}
	}
	if within < 800 || specials < 2000 {
		t.Error("too few", within, specials)
	}
}
