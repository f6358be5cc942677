package term

import (
	"slices"
	"strings"
	"testing"

	"resolvent/api"
)

// tower is a term of s(..s(a)..) of a depth.
func tower(depth int) api.Term {
	t := A("a")
	for range depth - 1 {
		t = api.Term{Kind: api.Struct, Name: "s", Args: []api.Term{t}}
	}
	return t
}

func TestGood(t *testing.T) {
	sixteen := make([]api.Term, api.MaxArity)
	for i := range sixteen {
		sixteen[i] = V(int64(i))
	}
	longest := strings.Repeat("x", api.MaxName)
	for i, x := range []api.Term{
		V(0), V(1 << 62), I(0), I(-1 << 63), A("a"), A(""), A(longest), A(" ~\t\n"), F(longest, I(1)),
		F("f", sixteen...), tower(api.MaxDepth), {Kind: api.Atom, Name: "a", Args: []api.Term{}},
	} {
		if !Good(x) {
			t.Errorf("%d is not good", i)
		}
	}
	for i, x := range []api.Term{
		{}, {Kind: 5}, {Kind: 255}, V(-1), {Kind: api.Var, Name: "x"}, {Kind: api.Var, Args: []api.Term{I(1)}},
		{Kind: api.Int, Name: "x"}, {Kind: api.Int, Args: []api.Term{I(1)}},
		{Kind: api.Atom, Name: "a", N: 1}, {Kind: api.Atom, Name: "a", Args: []api.Term{I(1)}},
		A(longest + "x"), A("\x00"), A("\x1f"), A("\x7f"), A("\r"), A("é"),
		{Kind: api.Struct, Name: "f"}, {Kind: api.Struct, Name: "f", N: 1, Args: []api.Term{I(1)}},
		F("f", append(slices.Clone(sixteen), I(1))...), F(longest+"x", I(1)), F("\x01", I(1)),
		F("f", I(1), V(-1)), F("f", F("g", api.Term{})), tower(api.MaxDepth + 1), tower(1 << 16),
	} {
		if Good(x) {
			t.Errorf("%d is good", i)
		}
	}
}

func TestGoodEndsSoonOnWhatIsTooDeep(t *testing.T) {
	args := make([]api.Term, api.MaxArity)
	for i := range args {
		args[i] = api.Term{Kind: api.Struct, Name: "f", Args: args}
	}
	if Good(args[0]) {
		t.Error("a term without an end is good")
	}
}

func TestMade(t *testing.T) {
	if x := V(3); x.Kind != api.Var || x.N != 3 || x.Name != "" || x.Args != nil {
		t.Error("V")
	}
	if x := I(-3); x.Kind != api.Int || x.N != -3 || x.Name != "" || x.Args != nil {
		t.Error("I")
	}
	if x := A("a"); x.Kind != api.Atom || x.N != 0 || x.Name != "a" || x.Args != nil {
		t.Error("A")
	}
	if x := F("a"); x.Kind != api.Atom || x.Name != "a" {
		t.Error("F without args")
	}
	x := F("f", A("a"), I(1))
	if x.Kind != api.Struct || x.Name != "f" || x.N != 0 || len(x.Args) != 2 || x.Args[0].Name != "a" || x.Args[1].N != 1 {
		t.Error("F")
	}
}

func TestFSharesNothing(t *testing.T) {
	inner := []api.Term{I(1)}
	args := []api.Term{{Kind: api.Struct, Name: "g", Args: inner}, I(2)}
	x := F("f", args...)
	inner[0], args[1] = I(9), I(9)
	if !Same(x, F("f", F("g", I(1)), I(2))) {
		t.Error("what is handed in shows in the answer")
	}
	room := args[:1:2]
	y := F("f", room...)
	_ = append(y.Args, I(7))
	if args[1].N != 9 {
		t.Error("the room behind a list's end was changed")
	}
}

func TestSame(t *testing.T) {
	all := []api.Term{V(0), V(1), I(0), I(1), A("0"), A("a"), A("f"), F("f", V(0)), F("f", V(1)), F("g", V(0)), F("f", V(0), V(0)), F("f", F("f", V(0))), {}, {Kind: api.Struct, Name: "f"}}
	for i, a := range all {
		for j, b := range all {
			if Same(a, b) != (i == j) {
				t.Errorf("Same of %d, %d", i, j)
			}
		}
	}
	if !Same(F("f", F("g", V(2)), A("b")), F("f", F("g", V(2)), A("b"))) || !Same(tower(1<<16), tower(1<<16)) {
		t.Error("Same of alike ones")
	}
	if !Same(api.Term{Kind: api.Atom, Args: []api.Term{}}, api.Term{Kind: api.Atom}) {
		t.Error("a nil and an empty list are not the same")
	}
}

func TestExamples(t *testing.T) {
	x := F("f", V(1), F("g", V(0), V(1)))
	if !slices.Equal(Vars(x), []int64{1, 0}) || Size(x) != 5 || Depth(x) != 3 {
		t.Error("f(X1, g(X0, X1))")
	}
	if Good(api.Term{Kind: api.Struct, Name: "f"}) || Good(api.Term{Kind: api.Atom, Name: "a", N: 1}) || !Ground(F("f", A("a"), I(1))) {
		t.Error("f(), an atom with N 1, f(a, 1)")
	}
}

func TestSizeDepthVarsGround(t *testing.T) {
	for _, x := range []api.Term{V(4), I(4), A("a")} {
		if Size(x) != 1 || Depth(x) != 1 || Ground(x) != (x.Kind != api.Var) {
			t.Error("a term without Args", x)
		}
	}
	if Depth(F("f", tower(3), tower(5), tower(2))) != 6 || Size(F("f", tower(3), tower(5), tower(2))) != 11 {
		t.Error("Depth, Size")
	}
	if l := Vars(F("f", V(5), F("g", V(3))), V(5), V(9), F("h", V(3), V(0))); !slices.Equal(l, []int64{5, 3, 9, 0}) {
		t.Error("Vars through all terms", l)
	}
	if len(Vars()) != 0 || len(Vars(A("a"), I(0))) != 0 {
		t.Error("Vars of none")
	}
	if Ground(F("f", A("a"), F("g", V(0)))) || !Ground(F("f", A("a"), F("g", I(0)))) {
		t.Error("Ground")
	}
}

func TestOfWhatItIsMade(t *testing.T) {
	parts := []api.Term{V(2), I(2), A("a"), F("f", V(1), V(2)), F("g", F("f", V(0), V(2)), I(1))}
	for _, a := range parts {
		for _, b := range parts {
			x := F("h", a, b)
			if Size(x) != 1+Size(a)+Size(b) || Depth(x) != 1+max(Depth(a), Depth(b)) || Ground(x) != (Ground(a) && Ground(b)) || !slices.Equal(Vars(x), Vars(a, b)) {
				t.Error("not of its Args", x)
			}
			for _, c := range parts {
				if Same(x, F("h", a, c)) != Same(b, c) || Same(x, F("h", c, b)) != Same(a, c) || Same(x, F("k", a, c)) {
					t.Error("Same not of its Args", x, c)
				}
			}
		}
	}
}

func TestAnyTermEnds(t *testing.T) {
	deep := tower(1 << 16)
	deep.Args = append(deep.Args, V(-7), api.Term{Kind: 9, Args: []api.Term{V(1)}})
	if Size(deep) != 1<<16+3 || Depth(deep) != 1<<16 || Ground(deep) || !slices.Equal(Vars(deep), []int64{-7, 1}) {
		t.Error("a term that is no good")
	}
	if Size(api.Term{}) != 1 || Depth(api.Term{}) != 1 || !Ground(api.Term{}) || len(Vars(api.Term{}, api.Term{})) != 0 {
		t.Error("the zero term")
	}
}
