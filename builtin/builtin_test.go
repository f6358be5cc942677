package builtin

import (
	"strings"
	"testing"

	"resolvent/api"
	"resolvent/check"
	"resolvent/parse"
	"resolvent/subst"
	"resolvent/term"
)

// goal reads a goal; its variables are numbered as they come.
func goal(t *testing.T, text string) api.Term {
	l, at, err := parse.Terms(text + " .")
	if err != api.OK || len(l) != 1 {
		t.Fatal(text, at, err)
	}
	return l[0].T
}

func TestDo(t *testing.T) {
	for text, want := range map[string]string{
		"true": "yes", "fail": "no",
		"X=f(Y)": "new", "f(X)=f(a)": "new", "a=a": "new", "a=b": "no", "X=f(X)": "no", "X=X": "new",
		"f(X)\\=f(a)": "no", "a\\=b": "yes", "X\\=f(X)": "yes", "X\\=Y": "no", "a\\=a": "no",
		"X==Y": "no", "X==X": "yes", "f(X,a)==f(X,a)": "yes", "a==b": "no", "1==a": "no",
		"X\\==Y": "yes", "X\\==X": "no", "f(X)\\==f(X)": "no",
		"X @< Y": "20", "X @< 1": "yes", "f(X,b) @< f(Y,a)": "20", "X @< X": "no", "X @=< X": "yes", "X @>= X": "yes", "X @> X": "no",
		"f(X,a) @< f(X,b)": "yes", "f(a,X) @< f(b,Y)": "yes", "f(X) @> a": "yes", "f(X) @> g(Y)": "no", "f(X) @< f(a)": "yes", "f(a) @< f(X)": "no",
		"1 @< a": "yes", "2 @< 1": "no", "2 @> 1": "yes", "2 @>= 2": "yes", "2 @=< 1": "no", "1 @>= 2": "no", "f(X) @>= f(Y)": "20", "f(X) @=< f(Y)": "20", "f(X) @> f(Y)": "20",
		"X is 1+2": "new", "3 is 1+2": "new", "4 is 1+2": "no", "a is 1": "no", "X is Y": "20", "X is a": "21", "X is 1//0": "23", "X is 9223372036854775807+1": "22", "f(X) is X": "20",
		"1+2 =:= 3": "yes", "1 =:= 2": "no", "1 =\\= 2": "yes", "2 =\\= 2": "no", "1 < 2": "yes", "2 < 2": "no", "3 > 2": "yes", "2 > 2": "no",
		"2 =< 2": "yes", "3 =< 2": "no", "2 >= 2": "yes", "1 >= 2": "no", "1 < a": "21", "X < a": "20", "a < X": "21", "1 < X": "20", "1//0 < X": "23",
		"X =:= 1": "20", "1 =\\= a": "21", "1 > a": "21", "1 =< a": "21", "1 >= a": "21",
		"var(X)": "yes", "var(a)": "no", "var(f(X))": "no", "nonvar(X)": "no", "nonvar(1)": "yes", "nonvar(a)": "yes", "nonvar(f(X))": "yes",
		"atom(a)": "yes", "atom(1)": "no", "atom(X)": "no", "atom(f(a))": "no", "atom([])": "yes",
		"integer(1)": "yes", "integer(a)": "no", "integer(X)": "no", "integer(1+2)": "no",
		"atomic(1)": "yes", "atomic(a)": "yes", "atomic(X)": "no", "atomic(f(a))": "no",
		"compound(f(X))": "yes", "compound(a)": "no", "compound(1)": "no", "compound(X)": "no",
		"p": "1", "!": "1", "X": "1", "1": "1", "true(a)": "1", "=(a)": "1", "(a,b)": "1", "is(a,b,c)": "1", "atom": "1",
	} {
		s := subst.New()
		r, ok, err := Do(s, goal(t, text))
		got := "no"
		switch {
		case err != api.OK:
			got = strings.TrimPrefix(err.Error(), "error ")
		case ok && r == s:
			got = "yes"
		case ok:
			got = "new"
		}
		if got != want || ok != (r != nil) || s.Len() != 0 {
			t.Error(text, got, want)
		}
	}
}

func TestBySubstitution(t *testing.T) {
	// X0 to f(X1), X1 to 3, X2 to X3.
	s := subst.New()
	s.Bind(0, term.F("f", term.V(1)))
	s.Bind(1, term.I(3))
	s.Bind(2, term.V(3))
	for text, want := range map[string]bool{
		"g(A,B,C,D), A==f(3)": true, "g(A,B,C,D), A==f(B)": true, "g(A,B,C,D), C==D": true, "g(A,B,C,D), C==A": false, "g(A,B,C,D), B < 4": true,
		"g(A,B,C,D), D is B+1": true, "g(A,B,C,D), compound(A)": true, "g(A,B,C,D), integer(B)": true, "g(A,B,C,D), var(C)": true, "g(A,B,C,D), nonvar(B)": true,
		"g(A,B,C,D), A @> f(2)": true, "g(A,B,C,D), A = f(4)": false, "g(A,B,C,D), A \\= f(4)": true, "g(A,B,C,D), C @>= D": true, "g(A,B,C,D), C = A": true,
	} {
		g := goal(t, text).Args[1]
		r, ok, err := Do(s, g)
		if err != api.OK || ok != want || s.Len() != 3 {
			t.Error(text, ok, err)
		}
		if again, more, _ := Do(s, g); ok && r == s && (!more || again != s) {
			t.Error("what succeeds without binding does not succeed twice", text)
		}
	}
	r, _, _ := Do(s, goal(t, "g(A,B,C,D), D is B+1").Args[1])
	if x := r.Walk(term.V(2)); x.N != 4 || r.Len() != 4 {
		t.Error("is", x)
	}
}

func TestErrors(t *testing.T) {
	if r, ok, err := Do(nil, term.A("p")); r != nil || ok || err != api.ErrNil {
		t.Error("by nil", err)
	}
	l := make([]api.Term, api.MaxWork)
	for i := range l {
		l[i] = term.I(1)
	}
	wide := term.F("f", l...)
	for _, name := range []string{"=", `\=`, "==", `\==`, "@<"} {
		for _, g := range []api.Term{term.F(name, wide, wide), term.F(name, term.V(0), wide), term.F(name, wide, term.V(0))} {
			if r, ok, err := Do(subst.New(), g); r != nil || ok || err != api.ErrFull {
				t.Error(name, ok, err)
			}
		}
	}
	for i, g := range []api.Term{{}, {Kind: api.Struct, Name: "true"}, {Kind: api.Atom, Name: "=", Args: l[:2]}, {Kind: 7, Name: "true"}, {Kind: api.Var, Name: "true"}} {
		if r, ok, err := Do(subst.New(), g); r != nil || ok || err != api.ErrArg {
			t.Error(i, err)
		}
	}
	if _, ok, err := Do(subst.New(), term.F("compound", wide)); !ok || err != api.OK {
		t.Error("a test looks at the Arg alone", err)
	}
}

func TestAllBuiltinsAreDone(t *testing.T) {
	count := 0
	for name := range doings() {
		for arity := range 3 {
			if check.Builtin(api.Pred{Name: name, Arity: arity}) {
				count++
			}
		}
	}
	if count != 23 || len(doings()) != 23 {
		t.Error("how many", count)
	}
}

func TestOrder(t *testing.T) {
	x, y, a, b := term.V(0), term.V(1), term.A("a"), term.A("b")
	f := func(l ...api.Term) api.Term { return term.F("f", l...) }
	for i, c := range []struct {
		a, b api.Term
		d    int
		ok   bool
	}{
		{x, y, 0, false}, {x, x, 0, true}, {x, a, -1, true}, {a, x, 1, true}, {f(x), f(y), 0, false}, {f(a, x), f(b, y), -1, true},
		{f(x, a), f(x, b), -1, true}, {f(x, b), f(y, a), 0, false}, {f(x), f(y, y), -1, true}, {f(f(x), a), f(f(y), b), 0, false},
		{f(x), term.F("g", y), -1, true}, {term.I(4), term.I(4), 0, true}, {b, a, 1, true}, {f(a), term.I(9), 1, true},
	} {
		if d, ok := Order(c.a, c.b); d != c.d || ok != c.ok {
			t.Error(i, d, ok)
		}
		if d, ok := Order(c.b, c.a); d != -c.d || ok != c.ok {
			t.Error(i, "turned", d, ok)
		}
	}
}

func TestWhatFollows(t *testing.T) {
	terms := []string{"X", "Y", "a", "b", "1", "2", "f(X)", "f(Y)", "f(a)", "f(X,a)", "f(a,b)", "f(f(a))", "[1,2]"}
	does := func(op, l, r string) int {
		// The variables are X and Y in every goal.
		g := goal(t, "g(X,Y) = "+op+"("+l+","+r+")").Args[1]
		_, ok, err := Do(subst.New(), g)
		if err != api.OK {
			return -int(err)
		}
		if ok {
			return 1
		}
		return 0
	}
	for _, l := range terms {
		for _, r := range terms {
			if does("=", l, r)+does("\\=", l, r) != 1 || does("==", l, r)+does("\\==", l, r) != 1 {
				t.Error("just one of both", l, r)
			}
			if !strings.ContainsAny(l+r, "XY") && does("@<", l, r)+does("==", l, r)+does("@>", l, r) != 1 {
				t.Error("just one of three", l, r)
			}
		}
	}
	for _, l := range []string{"1", "-3", "0"} {
		for _, r := range []string{"1", "-3", "0"} {
			if does("<", l, r)+does("=:=", l, r)+does(">", l, r) != 1 {
				t.Error("just one of three", l, r)
			}
		}
	}
}
