package code

import (
	"slices"
	"testing"

	"resolvent/api"
)

func check(l ...Instr) api.Errno { return Code{Instrs: l}.Check() }

var proceed = Instr{Op: OpProceed}

func TestExamples(t *testing.T) {
	if check(proceed) != api.OK {
		t.Error("OpProceed")
	}
	if check(Instr{Op: OpGetConst, Kind: api.Atom, Name: "a"}) != api.ErrCode {
		t.Error("nothing behind it")
	}
	if check(Instr{Op: OpGetStruct, Name: "f", N: 2}, Instr{Op: OpUnifyVar, A: 1}, proceed) != api.ErrCode {
		t.Error("one Arg of two")
	}
}

func TestOperations(t *testing.T) {
	ops := []Op{OpAllocate, OpDeallocate, OpCall, OpExecute, OpProceed, OpAnswer, OpFail, OpCut, OpBuiltin, OpTry, OpRetry, OpTrust, OpSwitch, OpSwitchBound, OpGetVar, OpGetVal, OpGetConst, OpGetStruct, OpUnifyVar, OpUnifyVal, OpUnifyConst, OpPutVar, OpPutVal, OpPutConst, OpPutStruct, OpGetConstRead, OpGetStructRead, OpGetConstWrite, OpGetStructWrite, OpGetValSafe, OpUnifyValSafe}
	ends := []Op{OpProceed, OpExecute, OpAnswer, OpFail, OpTrust, OpSwitch, OpSwitchBound}
	for i, op := range ops {
		if int(op) != i+1 {
			t.Error("number", op)
		}
		if (Instr{Op: op}).Ends() != slices.Contains(ends, op) {
			t.Error("Ends", op)
		}
	}
	for _, op := range []Op{0, OpUnifyValSafe + 1, 255} {
		if (Instr{Op: op}).Ends() || check(Instr{Op: op}, proceed) != api.ErrCode {
			t.Error("no operation", op)
		}
	}
}

// with puts an instruction into code of ten places in which it may stand, if it is as it should be.
func with(i Instr) api.Errno {
	l := []Instr{i}
	switch i.Op {
	case OpUnifyVar, OpUnifyVal, OpUnifyConst, OpUnifyValSafe:
		l = []Instr{{Op: OpGetStruct, Name: "f", N: 1}, i}
	case OpGetStruct, OpPutStruct, OpGetStructRead, OpGetStructWrite:
		for range min(max(i.N, 0), 20) {
			l = append(l, Instr{Op: OpUnifyVar})
		}
	}
	for len(l) < 10 || !l[len(l)-1].Ends() {
		l = append(l, proceed)
	}
	return check(l...)
}

func TestFields(t *testing.T) {
	atom := func(op Op, b int) Instr { return Instr{Op: op, B: b, Kind: api.Atom, Name: "a"} }
	good := []Instr{
		{Op: OpAllocate}, {Op: OpAllocate, A: 64}, {Op: OpDeallocate, A: -99, B: 1 << 40}, {Op: OpCut}, {Op: OpFail}, {Op: OpAnswer},
		{Op: OpCall, Name: "p", N: 16}, {Op: OpCall, A: 9}, {Op: OpExecute, A: 9, N: 0}, {Op: OpBuiltin, Name: "is", N: 2}, {Op: OpBuiltin, Name: "?", N: 16},
		{Op: OpTry, A: 9, B: 16}, {Op: OpRetry, A: 0}, {Op: OpTrust, A: 3, B: 1}, {Op: OpSwitch, A: 9}, {Op: OpSwitchBound, A: -1},
		{Op: OpGetVar, A: 255, B: 255}, {Op: OpGetVal, A: -64, B: 0}, {Op: OpGetValSafe, A: -1, B: 3}, {Op: OpPutVar, A: 16}, {Op: OpPutVal, A: -64, B: 255},
		atom(OpGetConst, 255), atom(OpPutConst, 0), atom(OpGetConstRead, 3), atom(OpGetConstWrite, 3), {Op: OpGetConst, Kind: api.Int, N: -4},
		{Op: OpGetStruct, Name: "f", N: 8, B: 255},
		{Op: OpUnifyVar, A: 255}, {Op: OpUnifyVal, A: -64}, {Op: OpUnifyValSafe, A: 0}, {Op: OpUnifyConst, Kind: api.Int}, {Op: OpUnifyConst, Kind: api.Atom},
		{Op: OpPutStruct, Name: "f", N: 1, A: 255}, {Op: OpGetStructRead, N: 1, B: 0}, {Op: OpGetStructWrite, N: 2, B: 3}, {Op: OpPutStruct, N: 16, A: 0},
	}
	for i, x := range good {
		if err := with(x); err != api.OK {
			t.Error("good", i, x.Text())
		}
	}
	bad := []Instr{
		{Op: OpAllocate, A: -1}, {Op: OpAllocate, A: 65}, {Op: OpCall, A: -1}, {Op: OpCall, A: 10}, {Op: OpCall, N: 17}, {Op: OpCall, N: -1}, {Op: OpExecute, A: 10}, {Op: OpExecute, N: 17},
		{Op: OpBuiltin, N: 17}, {Op: OpBuiltin, N: -1}, {Op: OpTry, A: 10}, {Op: OpTry, B: 17}, {Op: OpTry, B: -1}, {Op: OpRetry, A: -1}, {Op: OpRetry, B: 17}, {Op: OpTrust, A: 10}, {Op: OpTrust, B: -1},
		{Op: OpSwitch, A: -1}, {Op: OpSwitch, A: 10},
		{Op: OpSwitchBound}, {Op: OpSwitchBound, A: 9}, {Op: OpSwitchBound, A: 10}, {Op: OpSwitchBound, A: -2}, {Op: OpSwitchBound, A: -1 << 62}, {Op: OpSwitchBound, A: 1, Cases: []Case{{Kind: api.Int, To: 9}}},
		{Op: OpGetVar, A: 256}, {Op: OpGetVar, A: -65}, {Op: OpGetVar, B: -1}, {Op: OpGetVar, B: 256}, {Op: OpGetVal, A: 256}, {Op: OpGetVal, B: -1}, {Op: OpGetValSafe, A: -65}, {Op: OpGetValSafe, B: 256},
		{Op: OpPutVar, A: 256}, {Op: OpPutVar, B: -1}, {Op: OpPutVal, A: -65}, {Op: OpPutVal, B: 256}, {Op: OpPutVal, A: 1 << 62},
		{Op: OpGetConst, B: 0}, {Op: OpGetConst, Kind: api.Var}, {Op: OpGetConst, Kind: api.Struct}, atom(OpGetConst, -1), atom(OpGetConst, 256), atom(OpPutConst, -1), atom(OpGetConstRead, 256), atom(OpGetConstWrite, -1), {Op: OpPutConst, Kind: 77},
		{Op: OpGetStruct, N: 0}, {Op: OpGetStruct, N: -1}, {Op: OpGetStruct, N: 17}, {Op: OpGetStruct, N: 1, B: -1}, {Op: OpGetStruct, N: 1, B: 256}, {Op: OpGetStructRead, N: 0}, {Op: OpGetStructWrite, N: 17}, {Op: OpGetStructWrite, N: 1, B: -1},
		{Op: OpPutStruct, N: 1, A: -1}, {Op: OpPutStruct, N: 1, A: 256}, {Op: OpPutStruct, N: 0}, {Op: OpPutStruct, N: 17},
		{Op: OpUnifyVar, A: 256}, {Op: OpUnifyVar, A: -65}, {Op: OpUnifyVal, A: 256}, {Op: OpUnifyValSafe, A: -65}, {Op: OpUnifyConst}, {Op: OpUnifyConst, Kind: api.Struct},
	}
	for i, x := range bad {
		if err := with(x); err != api.ErrCode {
			t.Error("bad", i, x.Text(), err)
		}
	}
}

func TestCases(t *testing.T) {
	num := func(n int64) Case { return Case{Kind: api.Int, N: n} }
	atom := func(s string) Case { return Case{Kind: api.Atom, Name: s} }
	fun := func(s string, n int64) Case { return Case{Kind: api.Struct, Name: s, N: n} }
	for i, c := range []struct {
		cases []Case
		want  api.Errno
	}{
		{nil, api.OK},
		{[]Case{num(-5), num(0), num(7), atom(""), atom("B"), atom("a"), fun("a", 1), fun("a", 2), fun("b", 1)}, api.OK},
		{[]Case{num(0), num(0)}, api.ErrCode}, {[]Case{num(1), num(0)}, api.ErrCode}, {[]Case{atom("a"), num(0)}, api.ErrCode}, {[]Case{atom("a"), atom("a")}, api.ErrCode}, {[]Case{atom("b"), atom("a")}, api.ErrCode},
		{[]Case{fun("a", 1), atom("b")}, api.ErrCode}, {[]Case{fun("a", 2), fun("a", 1)}, api.ErrCode}, {[]Case{fun("a", 1), fun("a", 1)}, api.ErrCode}, {[]Case{fun("b", 1), fun("a", 2)}, api.ErrCode},
		{[]Case{fun("a", 0)}, api.ErrCode}, {[]Case{fun("a", 17)}, api.ErrCode}, {[]Case{{Kind: api.Var}}, api.ErrCode}, {[]Case{{}}, api.ErrCode},
		{[]Case{{Kind: api.Int, To: 10}}, api.ErrCode}, {[]Case{{Kind: api.Int, To: -1}}, api.ErrCode}, {[]Case{{Kind: api.Int, To: 9}}, api.OK},
	} {
		if err := with(Instr{Op: OpSwitch, Cases: c.cases}); err != c.want {
			t.Error("switch", i, err)
		}
		if err := with(Instr{Op: OpSwitchBound, A: -1, Cases: c.cases}); err != c.want {
			t.Error("switch bound", i, err)
		}
	}
}

func TestSwitchBoundHasNoPlaceOfAVariable(t *testing.T) {
	f := []Instr{{Op: OpGetStruct, Name: "f", N: 2}, {Op: OpUnifyVar}, {Op: OpUnifyVar}}
	for a, want := range map[int]api.Errno{-1: api.OK, 0: api.ErrCode, 1: api.ErrCode, 3: api.ErrCode, -2: api.ErrCode} {
		last := Instr{Op: OpSwitchBound, A: a}
		if err := check(last); err != want {
			t.Error("alone", a, err)
		}
		if err := check(append(slices.Clone(f), last)...); err != want {
			t.Error("behind a structure", a, err)
		}
		if err := check(last, proceed); err != want {
			t.Error("ahead of another one", a, err)
		}
	}
}

func TestStructures(t *testing.T) {
	v := Instr{Op: OpUnifyVar}
	for _, op := range []Op{OpGetStruct, OpGetStructRead, OpGetStructWrite, OpPutStruct} {
		f := Instr{Op: op, Name: "f", N: 2}
		if check(f, v, Instr{Op: OpUnifyVal}, f, Instr{Op: OpUnifyConst, Kind: api.Int}, Instr{Op: OpUnifyValSafe}, proceed) != api.OK {
			t.Error("good", op)
		}
		if check(f, v, v, v, proceed) != api.ErrCode || check(f, v, f, v, v, v, proceed) != api.ErrCode || check(f, v, v) != api.ErrCode || check(f, proceed) != api.ErrCode {
			t.Error("bad", op)
		}
	}
	if check(v, proceed) != api.ErrCode {
		t.Error("an Arg without a structure")
	}
}

func TestLengthEndAndEntries(t *testing.T) {
	if check() != api.ErrCode || (Code{Entry: map[api.Pred]int{{Name: "p"}: 0}}).Check() != api.ErrCode {
		t.Error("no instructions")
	}
	if check(slices.Repeat([]Instr{proceed}, MaxCode)...) != api.OK || check(slices.Repeat([]Instr{proceed}, MaxCode+1)...) != api.ErrLong || check(make([]Instr, MaxCode+1)...) != api.ErrLong {
		t.Error("MaxCode")
	}
	for _, op := range []Op{OpCut, OpDeallocate, OpTry, OpRetry, OpCall, OpBuiltin, OpGetVar, OpAllocate} {
		if check(proceed, Instr{Op: op}) != api.ErrCode {
			t.Error("the last one is no end", op)
		}
	}
	for place, want := range map[int]api.Errno{0: api.OK, 1: api.OK, 2: api.ErrCode, -1: api.ErrCode} {
		if (Code{Instrs: []Instr{proceed, proceed}, Entry: map[api.Pred]int{{Name: "p"}: place}}).Check() != want {
			t.Error("entry", place)
		}
	}
}

func TestTakingTheLastAway(t *testing.T) {
	l := []Instr{{Op: OpAnswer}, {Op: OpFail}, {Op: OpTry, A: 4, B: 1}, {Op: OpTrust, A: 6, B: 1}, {Op: OpGetVar, A: 16}, proceed, {Op: OpGetConst, Kind: api.Int}, proceed}
	if check(l...) != api.OK {
		t.Fatal("may be run")
	}
	if check(l[:7]...) != api.ErrCode || check(l[:6]...) != api.ErrCode {
		t.Error("without the last one, without a place that is gone to")
	}
	for i, x := range l {
		if !x.Ends() && i+1 == len(l) {
			t.Error("nothing behind", i)
		}
	}
}

func TestText(t *testing.T) {
	l := []Instr{
		{}, {Op: 1}, {Op: 2}, {A: 1}, {B: 1}, {A: 1, B: 1}, {A: 11}, {Kind: 1}, {Name: "1"}, {N: 1}, {N: -1}, {Name: " "}, {Name: `"`}, {Name: "\x00"}, {Name: "é"},
		{Cases: []Case{{}}}, {Cases: []Case{{}, {}}}, {Cases: []Case{{Kind: 1}}}, {Cases: []Case{{Name: "a"}}}, {Cases: []Case{{N: 1}}}, {Cases: []Case{{To: 1}}}, {Cases: []Case{{To: 11}}}, {Op: 200}, {Name: `" 0""0:0`},
	}
	for i, x := range l {
		for j, y := range l {
			if (x.Text() == y.Text()) != (i == j) {
				t.Error("Text", x.Text(), y.Text())
			}
		}
	}
	if (Instr{Cases: []Case{}}).Text() != (Instr{}).Text() {
		t.Error("an empty list of cases is another one than none")
	}
}
