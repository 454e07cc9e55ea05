package parser

import (
	"testing"

	"lazyc/api"
	"lazyc/syntax"
)

// P7.1: patterns.
func TestPats(t *testing.T) {
	x, y := pv("x"), pv("y")
	for _, c := range []struct {
		src  string
		want api.Pat
	}{
		{"x", x},
		{"(+)", pv("+")},
		{"(-)", pv("-")},
		{"_", api.Pat{Op: api.PWild}},
		{"1", pi(1)},
		{"- 1", pi(-1)},
		{"- 0", pi(0)},
		{"(- 1)", pparen(pi(-1))},
		{"- 9223372036854775807", pi(-api.MaxInt)},
		{"'a'", api.Pat{Op: api.PChar, N: 'a'}},
		{`"ab"`, api.Pat{Op: api.PString, Text: "ab"}},
		{"M.C", pcon("M.C")},
		{"(:+)", pcon(":+")},
		{"C x (D y) 1 _", pcon("C", x, pparen(pcon("D", y)), pi(1), api.Pat{Op: api.PWild})},
		{"(M.:+) x y", pcon("M.:+", x, y)},
		{"()", pkids(api.PTuple)},
		{"[]", pkids(api.PList)},
		{"() x", pcon("()", x)},
		{"[] x", pcon("[]", x)},
		{"(,)", pcon("(,)")},
		{"(,,) x y", pcon("(,,)", x, y)},
		{"C () [] (,)", pcon("C", pkids(api.PTuple), pkids(api.PList), pcon("(,)"))},
		{"(x, - 1)", pkids(api.PTuple, x, pi(-1))},
		{"[x, C y]", pkids(api.PList, x, pcon("C", y))},
		{"((x))", pparen(pparen(x))},
		{"x@y", as("x", y)},
		{"x@y@ ~_", as("x", as("y", pkids(api.PLazy, api.Pat{Op: api.PWild})))},
		{"(+)@(C x)", as("+", pparen(pcon("C", x)))},
		{"~x", pkids(api.PLazy, x)},
		{"C ~x y@[]", pcon("C", pkids(api.PLazy, x), as("y", pkids(api.PList)))},
		{"C {}", precord("C", "")},
		{"M.C { x = C y, (+) = - 1 }", precord("M.C", "x +", pcon("C", y), pi(-1))},
		{"(:+) { x = y : x }", precord(":+", "x", pinfix(":", y, x))},
		{"x : - 1 : C {a = y}", pinfix(": :", x, pi(-1), precord("C", "a", y))},
		{"C x y :+ [] `D` ()", pinfix(":+ D", pcon("C", x, y), pkids(api.PList), pkids(api.PTuple))},
	} {
		got, fault := Pat(c.src)
		if fault != (api.Fault{}) || !syntax.SamePat(got, c.want) {
			t.Errorf("%q: %v with\n%v, want\n%v", c.src, fault, got, c.want)
		}
	}
}

// P7.1, P7.4: faults in patterns.
func TestPatFaults(t *testing.T) {
	end := api.Fault{Code: api.ErrSyntax, Name: "}"}
	checkFaults(t, Pat, func(p api.Pat) bool { return p.Op == 0 && p.Kids == nil }, []faultCase{
		{"", end},
		{"C x :", end},
		{"{ x }", at("{", 1, 1)},
		{"x y", at("y", 1, 3)},
		{"M.x", at("M.x", 1, 1)},
		{"C M.x", at("M.x", 1, 3)},
		{"- x", at("x", 1, 3)},
		{"C - 1", at("-", 1, 3)},
		{"(- x)", at("x", 1, 4)},
		{"(+ x)", at("x", 1, 4)},
		{"(M.+)", at("M.+", 1, 2)},
		{"C { x = y } z", at("z", 1, 13)},
		{"C { M.x = y }", at("M.x", 1, 5)},
		{"C { x }", at("}", 1, 7)},
		{"x { y = z }", at("{", 1, 3)},
		{"x M.:+ y", at("M.:+", 1, 3)},
		{"x + y", at("+", 1, 3)},
		{"x `f` y", at("f", 1, 4)},
		{"x `M.C` y", at("M.C", 1, 4)},
		{"x `C y", at("y", 1, 6)},
		{"x @ - 1", at("-", 1, 5)},
		{"C @ x", at("@", 1, 3)},
		{"(x) @ y", at("@", 1, 5)},
		{"[x,]", at("]", 1, 4)},
		{"(x,)", at(")", 1, 4)},
		{"(,x)", at("x", 1, 3)},
		{"x -> y", at("->", 1, 3)},
	})
}

// P7.1: patterns that are derivable, and not well formed or too large.
func TestPatChecks(t *testing.T) {
	empty := func(p api.Pat) bool { return p.Op == 0 && p.Kids == nil }
	checkFaults(t, Pat, empty, []faultCase{
		{"(x, x, x, x, x, x, x, x)", api.Fault{Code: api.ErrArg}},
		{"(,,,,,,,)", api.Fault{Code: api.ErrArg}},
		{nested("(", 99, ")"), api.Fault{Code: api.ErrDepth}},
		{"[" + repeated("x,", 200) + "x]", api.Fault{Code: api.ErrLong}},
	})
	for _, src := range []string{"(,,,,,,)", "(x, x, x, x, x, x, x)", nested("(", 98, ")"), "[" + repeated("x,", 199) + "x]"} {
		if p, fault := Pat(src); fault != (api.Fault{}) || p.Op == 0 {
			t.Errorf("%q: %v", src, fault)
		}
	}
}
