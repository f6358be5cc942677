package special

import (
	"reflect"
	"strings"
	"testing"

	"resolvent/api"
	"resolvent/code"
	"resolvent/compile"
	"resolvent/desc"
	"resolvent/emu"
	"resolvent/sample"
	"resolvent/term"
)

var roomy = emu.Limits{Fuel: 20000, Heap: 1 << 16, Trail: 1 << 16, Choices: 1 << 16, Frames: 1 << 16}

// both are a program's plain code and its special one.
func both(t *testing.T, text string) (code.Code, code.Code, api.Program) {
	p := sample.Load(t, text)
	plain, err := compile.Compile(p)
	if err != api.OK {
		t.Fatal(text, err)
	}
	special, err := Compile(p, p.Entries[0])
	if err != api.OK || special.Check() != api.OK || len(special.Instrs) != len(plain.Instrs) || !reflect.DeepEqual(special.Entry, plain.Entry) {
		t.Fatal(text, err)
	}
	return plain, special, p
}

// turned are the operations that are other ones, as the plain one and the special one.
func turned(t *testing.T, text string) string {
	names := map[code.Op]string{code.OpGetConst: "const", code.OpGetConstRead: "read", code.OpGetConstWrite: "write", code.OpGetStruct: "struct", code.OpGetStructRead: "read", code.OpGetStructWrite: "write",
		code.OpGetVal: "val", code.OpGetValSafe: "safe", code.OpUnifyVal: "unify", code.OpUnifyValSafe: "safe", code.OpSwitch: "switch", code.OpSwitchBound: "bound"}
	plain, special, _ := both(t, text)
	var l []string
	for i, x := range plain.Instrs {
		y := special.Instrs[i]
		if name, ok := names[x.Op]; ok {
			s := name
			if x.Op != y.Op {
				s += "-" + names[y.Op]
			}
			l = append(l, s)
		}
		if x.Op == code.OpSwitch && y.Op == code.OpSwitchBound && y.A == -1 {
			y.A = x.A
		}
		y.Op = x.Op
		if x.Text() != y.Text() {
			t.Error(text, "another instruction", x.Text(), y.Text())
		}
	}
	return strings.Join(l, " ")
}

func TestCompile(t *testing.T) {
	for text, want := range map[string]string{
		sample.App + ":-entry(app(ground,ground,free)).":            "switch-bound const-read val-safe struct-read struct-write unify-safe",
		sample.App + ":-entry(app(any,any,any)).":                   "switch const val struct struct unify",
		sample.App + ":-entry(app(free,free,ground)).":              "switch const val-safe struct struct-read unify",
		"p(a). p(b). :-entry(p(any)).":                              "switch const const",
		"p(a). p(b). :-entry(p(free)).":                             "switch const-write const-write",
		"p(a). p(b). :-entry(p(atom)).":                             "switch-bound const-read const-read",
		"p(a,f(X),X). :-entry(p(integer,ground,any)).":              "const-read struct-read val-safe",
		"p(f(X)). :-entry(p(free)).":                                "struct-write",
		"p(f(g(X,a))). :-entry(p(ground)).":                         "struct-read struct",
		"p(X,f(X)). :-entry(p(free,free)).":                         "struct-write unify",
		"p(X,f(X)). :-entry(p(any,free)).":                          "struct-write unify",
		"p(X,f(X)). :-entry(p(any,any)).":                           "struct unify",
		"p(X,f(X)). :-entry(p(ground,any)).":                        "struct unify-safe",
		"p(X,X). :-entry(p(any,free)).":                             "val-safe",
		"p(X,X). :-entry(p(free,any)).":                             "val-safe",
		"p(X,X). :-entry(p(any,any)).":                              "val",
		"p(X,X). :-entry(p(any,atom)).":                             "val-safe",
		"p(X):-q(X,f(X)). q(Y,Y). :-entry(p(free)).":                "unify val",
		"p(f(X),Y,f(X)):-q. q. :-entry(p(free,any,free)).":          "struct-write struct-write unify",
		"p(X):-X=f(Y),q(X,Z). q(f(a),f(_)). r(a). :-entry(p(any)).": "struct-read struct-write const-read",
	} {
		if got := turned(t, text); got != want {
			t.Errorf("%s:\n%s\n%s", text, got, want)
		}
	}
}

func TestErrors(t *testing.T) {
	p := sample.Load(t, "p(X):-q. q. :-entry(p(any)).")
	for i, c := range []struct {
		p   api.Program
		e   api.Entry
		err api.Errno
	}{
		{sample.Load(t, "p:-q."), api.Entry{Name: "p"}, api.ErrUndef}, {api.Program{Clauses: make([]api.Clause, 300)}, api.Entry{}, api.ErrLong},
		{p, api.Entry{Name: "p"}, api.ErrUndef}, {p, api.Entry{Name: "p", Modes: []uint8{9}}, api.ErrArg}, {p, p.Entries[0], api.OK}, {p, api.Entry{Name: "q"}, api.OK},
	} {
		if cd, err := Compile(c.p, c.e); err != c.err || err != api.OK && (cd.Instrs != nil || cd.Entry != nil) {
			t.Error(i, err)
		}
	}
	long := api.Program{}
	var l []api.Term
	for range 16 {
		var m []api.Term
		for range 14 {
			m = append(m, term.F("g", term.A("a")))
		}
		l = append(l, term.F("f", m...))
	}
	long.Clauses = []api.Clause{{Head: term.F("p", l...)}}
	if _, err := Compile(long, api.Entry{Name: "p", Modes: make([]uint8, 16)}); err != api.ErrLong {
		t.Error("compile's error", err)
	}
	_, special, _ := both(t, "p(a,_). :-entry(p(ground,free)).")
	e := api.Entry{Name: "p", Modes: []uint8{api.ModeGround, api.ModeFree}}
	for i, c := range []struct {
		e   api.Entry
		q   string
		l   emu.Limits
		err api.Errno
	}{
		{e, "p(a,X)", roomy, api.OK}, {e, "p(X,Y)", roomy, api.ErrPattern}, {e, "p(X,Y)", emu.Limits{Fuel: -1}, api.ErrPattern}, {e, "X", roomy, api.ErrForm}, {e, "q(a,X)", roomy, api.ErrPattern},
		{api.Entry{Name: "p", Modes: []uint8{8}}, "p(a,X)", roomy, api.ErrArg}, {e, "p(a,X)", emu.Limits{Fuel: -1}, api.ErrArg}, {api.Entry{Name: "r"}, "r", roomy, api.ErrUndef},
	} {
		r, err := Run(special, c.e, sample.Query(t, c.q), c.l)
		if err != c.err || err != api.OK && (r.Events != nil || r.Steps != 0) {
			t.Error(i, err)
		}
	}
	if _, err := Run(code.Code{}, e, sample.Query(t, "p(a,X)"), roomy); err != api.ErrCode {
		t.Error("emu's error", err)
	}
}

func ends(l []api.Event) bool {
	k := l[len(l)-1].Kind
	return k == api.EvEnd || k == api.EvError
}

// agree tells whether a run of special code is as that of the plain one.
func agree(plain, special emu.Result) bool {
	a, b := plain.Events, special.Events
	n := min(len(a), len(b)) - 1
	for i := range n {
		if !reflect.DeepEqual(a[i], b[i]) {
			return false
		}
	}
	if ends(a) && ends(b) {
		return reflect.DeepEqual(a, b) && special.Steps <= plain.Steps && special.Trail <= plain.Trail
	}
	// One that ends by itself has all.
	return !(ends(a) && len(b) > len(a)) && !(ends(b) && len(a) > len(b))
}

func TestAnsweredAsByThePlainOne(t *testing.T) {
	n := sample.Numbers(1)
	within, specials := 0, 0
	for range 700 {
		text := n.Program()
		plain, special, p := both(t, text)
		for _, i := range special.Instrs {
			if i.Op > code.OpPutStruct {
				specials++
			}
		}
		e := p.Entries[0]
		for range 8 {
			q := sample.Query(t, n.Query())
			if !desc.Entry(e.Modes).In(q.Args) {
				if r, err := Run(special, e, q, roomy); err != api.ErrPattern || r.Steps != 0 {
					t.Fatal("outside of the entry", text, err)
				}
				continue
			}
			within++
			limits := []emu.Limits{
				{Fuel: 600, Heap: 4000, Trail: 4000, Choices: 4000, Frames: 4000},
				{Fuel: n.Below(100), Heap: n.Below(50), Trail: n.Below(20), Choices: n.Below(10), Frames: n.Below(10)},
			}
			for _, l := range limits {
				a, err := emu.Run(plain, q, l)
				if err != api.OK {
					t.Fatal(err)
				}
				b, err := Run(special, e, q, l)
				if err != api.OK || !agree(a, b) {
					t.Fatal(text, q, a, b)
				}
			}
		}
	}
	if within < 800 || specials < 2000 {
		t.Error("too few", within, specials)
	}
}
