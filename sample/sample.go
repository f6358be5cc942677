// Package sample has programs, queries and numbers for the tests of several layers.
package sample

import (
	"strconv"
	"strings"

	"resolvent/api"
	"resolvent/norm"
	"resolvent/parse"
	"resolvent/program"
	"resolvent/write"
)

// App is lists that are put together.
const App = "app([],L,L). app([X|A],B,[X|C]):-app(A,B,C). "

// Test is what is told when a text of a test is none.
type Test interface {
	Helper()
	Fatal(args ...any)
}

// Load is a text's program, turned.
func Load(t Test, text string) api.Program {
	t.Helper()
	p, at, err := normal(text)
	if err != api.OK {
		t.Fatal(text, at, err)
	}
	return p
}

func normal(text string) (api.Program, int, api.Errno) {
	p, at, err := program.Read(text)
	if err != api.OK {
		return p, at, err
	}
	return norm.Normal(p)
}

// Query is a text's term.
func Query(t Test, text string) api.Term {
	t.Helper()
	l, at, err := parse.Terms(text + " .")
	if err != api.OK || len(l) != 1 {
		t.Fatal(text, at, err)
	}
	return l[0].T
}

// Told tells events in a line.
func Told(l []api.Event) string {
	var r []string
	for _, e := range l {
		var terms []string
		for _, x := range e.Terms {
			terms = append(terms, write.Text(x))
		}
		r = append(r, kind(e)+inParentheses(e, strings.Join(terms, ",")))
	}
	return strings.Join(r, "; ")
}

func kind(e api.Event) string {
	switch e.Kind {
	case api.EvCall:
		return "call " + e.P.Name
	case api.EvExit:
		return "exit " + e.P.Name
	case api.EvPoint:
		return "at " + strconv.Itoa(e.Clause) + " " + strconv.Itoa(e.Goal)
	case api.EvAnswer:
		return "yes"
	case api.EvEnd:
		return "no"
	case api.EvFuel:
		return "fuel"
	case api.EvFull:
		return "full"
	}
	return e.Code.Error()
}

func inParentheses(e api.Event, terms string) string {
	if e.Kind > api.EvAnswer {
		return ""
	}
	return "(" + terms + ")"
}

// Numbers is a small generator of numbers: the tests are the same each time.
type Numbers uint32

// Below is some number from 0 below m.
func (n *Numbers) Below(m int) int {
	*n = *n*1664525 + 1013904223
	return int(*n>>16) % m
}

// one is some one of texts.
func (n *Numbers) one(l ...string) string { return l[n.Below(len(l))] }

// Term is the text of some term of the variables X, Y, Z.
func (n *Numbers) Term(depth int) string {
	switch k := n.Below(8); {
	case k < 4:
		return n.one("X", "Y", "Z")
	case k < 6 || depth == 0:
		return n.one("a", "1", "[]", "b")
	case k == 6:
		return "[" + n.Term(depth-1) + "|" + n.Term(depth-1) + "]"
	}
	return "f(" + n.Term(depth-1) + "," + n.Term(depth-1) + ")"
}

// goal is the text of some goal.
func (n *Numbers) goal() string {
	switch k := n.Below(14); {
	case k < 3:
		return n.Term(1) + "=" + n.Term(2)
	case k == 3:
		return n.one("atom", "var", "nonvar", "compound", "integer", "atomic") + "(" + n.Term(0) + ")"
	case k == 4:
		return n.one("!", "X==Y", `X\=f(Y,Z)`, "Z is 1+1", "X=:=1", "X @< Y", `X\==Y`)
	case k == 5:
		return "(" + n.goal() + "-> " + n.goal() + ";" + n.goal() + ")"
	case k == 6:
		return `\+ (` + n.goal() + ")"
	}
	return "p" + strconv.Itoa(n.Below(3)) + "(" + n.Term(1) + "," + n.Term(1) + ")"
}

// Query is the text of some query of p0.
func (n *Numbers) Query() string { return "p0(" + n.Term(1) + "," + n.Term(1) + ")" }

// Program is the text of some program of p0, p1, p2, that can be turned, and of an entry of p0.
func (n *Numbers) Program() string {
	for {
		text := n.clauses("p0") + n.clauses("p1") + n.clauses("p2") + ":-entry(p0(" + n.mode() + "," + n.mode() + ")).\n"
		if _, _, err := normal(text); err == api.OK {
			return text
		}
	}
}

func (n *Numbers) mode() string { return n.one("any", "ground", "free", "integer", "atom") }

func (n *Numbers) clauses(p string) string {
	var b strings.Builder
	for range 1 + n.Below(3) {
		b.WriteString(p + "(" + n.Term(2) + "," + n.Term(2) + ")")
		for i := range n.Below(4) {
			b.WriteString([]string{":-", ","}[min(i, 1)] + " " + n.goal())
		}
		b.WriteString(" .\n")
	}
	b.WriteString(p + "(" + n.Term(1) + "," + n.Term(1) + ").\n")
	return b.String()
}
