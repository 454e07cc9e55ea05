package parser

import (
	"testing"

	"lazyc/api"
	"lazyc/syntax"
)

type exprCase struct {
	src  string
	want api.Expr
}

func checkExprs(t *testing.T, cases []exprCase) {
	t.Helper()
	for _, c := range cases {
		got, fault := Expr(c.src)
		if fault != (api.Fault{}) || !syntax.SameExpr(got, c.want) {
			t.Errorf("%q: %v with\n%v, want\n%v", c.src, fault, got, c.want)
		}
	}
}

// P7.1: names, literals and applications.
func TestAtoms(t *testing.T) {
	checkExprs(t, []exprCase{
		{"x", ev("x")},
		{"M.x", ev("M.x")},
		{"forall", ev("forall")},
		{"C", ec("C")},
		{"M.C", ec("M.C")},
		{"(+)", ev("+")},
		{"(-)", ev("-")},
		{"(M.-)", ev("M.-")},
		{"(:+)", ec(":+")},
		{"(M.:+)", ec("M.:+")},
		{"12", ei(12)},
		{"'a'", api.Expr{Op: api.EChar, N: 'a'}},
		{`"a\n"`, api.Expr{Op: api.EString, Text: "a\n"}},
		{"()", kids(api.ETuple)},
		{"[]", kids(api.EList)},
		{"(,)", ec("(,)")},
		{"( , , )", ec("(,,)")},
		{"(x)", paren(ev("x"))},
		{"((x))", paren(paren(ev("x")))},
		{"(x, y :: T)", kids(api.ETuple, ev("x"), signed(ev("y"), "T"))},
		{"[x, y, z]", kids(api.EList, ev("x"), ev("y"), ev("z"))},
		{"[x :: T .. y]", kids(api.ERange, signed(ev("x"), "T"), ev("y"))},
		{"f x 1 (g y)", app(ev("f"), ev("x"), ei(1), paren(app(ev("g"), ev("y"))))},
		{"C () [] (,) (+)", app(ec("C"), kids(api.ETuple), kids(api.EList), ec("(,)"), ev("+"))},
	})
}

// P7.1: records.
func TestRecordExprs(t *testing.T) {
	construct := func(name string, fields ...api.Field) api.Expr {
		return api.Expr{Op: api.ERecord, Name: name, Fields: fields}
	}
	a, b := field("a", ei(1)), field("+", infix("..", "+", ev("x"), ev("y")))
	checkExprs(t, []exprCase{
		{"C {}", construct("C")},
		{"M.C { a = 1, (+) = x + y }", construct("M.C", a, b)},
		{"(:+) { a = 1 }", construct(":+", a)},
		{"(,) { a = 1 }", construct("(,)", a)},
		{"(C) { a = 1 }", update(paren(ec("C")), a)},
		{"() { a = 1 }", update(kids(api.ETuple), a)},
		{"C { a = 1 } { a = 1 }", update(construct("C", a), a)},
		{"f x { a = 1 } y", app(ev("f"), update(ev("x"), a), ev("y"))},
		{"1 { a = 1 }", update(ei(1), a)},
		{"- x { a = 1 }", infix("-", "", update(ev("x"), a))},
	})
}

// P7.1: operators, minus signs and signatures.
func TestInfixExprs(t *testing.T) {
	checkExprs(t, []exprCase{
		{"a + - b", infix(".-", "+", ev("a"), ev("b"))},
		{"a - - b - c", infix(".-.", "- -", ev("a"), ev("b"), ev("c"))},
		{"- x", infix("-", "", ev("x"))},
		{"- f x * 1", infix("-.", "*", app(ev("f"), ev("x")), ei(1))},
		{"a M.+ b : c M.:+ d", infix("....", "M.+ : M.:+", ev("a"), ev("b"), ev("c"), ev("d"))},
		{"a `f` b `M.g` c `C` d", infix("....", "f M.g C", ev("a"), ev("b"), ev("c"), ev("d"))},
		{"x :: a -> M.T a", signed(ev("x"), "a -> M.T a")},
		{"x + y :: C a => a", signed(infix("..", "+", ev("x"), ev("y")), "a", pred("C", "a"))},
		{"x :: (M.C a, (:<) b) => ()", signed(ev("x"), "()", pred("M.C", "a"), pred(":<", "b"))},
		{"x :: () => T", signed(ev("x"), "T")},
		{"x :: (C a)", signed(ev("x"), "C a")},
		{"x :: (C a, D b) -> c", signed(ev("x"), "(C a, D b) -> c")},
		{`\x -> x + y`, lam(infix("..", "+", ev("x"), ev("y")), pv("x"))},
		{`\x -> x :: T`, lam(signed(ev("x"), "T"), pv("x"))},
		{`\x -> x :: T + y`, infix("..", "+", lam(signed(ev("x"), "T"), pv("x")), ev("y"))},
		{`x + \y -> y`, infix("..", "+", ev("x"), lam(ev("y"), pv("y")))},
		{"do { x } + y", infix("..", "+", do(exp(ev("x"))), ev("y"))},
	})
}

// P7.1: sections, and what looks like one.
func TestSections(t *testing.T) {
	x, y := ev("x"), ev("y")
	one := caseOf(x, api.Alt{Pat: pv("y"), Rhs: is(y)})
	checkExprs(t, []exprCase{
		{"(+ 1)", section(api.ERight, "+", ei(1))},
		{"(subtract 1 +)", section(api.ELeft, "+", app(ev("subtract"), ei(1)))},
		{"(- 1)", paren(infix("-", "", ei(1)))},
		{"(x -)", section(api.ELeft, "-", x)},
		{"(- x -)", section(api.ELeft, "-", infix("-", "", x))},
		{"(M.- x)", section(api.ERight, "M.-", x)},
		{"(+ - x)", section(api.ERight, "+", infix("-", "", x))},
		{"(`f` x)", section(api.ERight, "f", x)},
		{"(x `M.C`)", section(api.ELeft, "M.C", x)},
		{"(x `f` y)", paren(infix("..", "f", x, y))},
		{"(x `f` (y))", paren(infix("..", "f", x, paren(y)))},
		{"(x + y :)", section(api.ELeft, ":", infix("..", "+", x, y))},
		{"(: x + y)", section(api.ERight, ":", infix("..", "+", x, y))},
		{"((x + y) +)", section(api.ELeft, "+", paren(infix("..", "+", x, y)))},
		{"(case x of { y -> y } +)", section(api.ELeft, "+", one)},
		{`(\x -> x :: T + y +)`, section(api.ELeft, "+", infix("..", "+", lam(signed(x, "T"), pv("x")), y))},
		{`(+ \x -> x)`, section(api.ERight, "+", lam(x, pv("x")))},
	})
}

// P7.1: expressions that begin with a word.
func TestWordExprs(t *testing.T) {
	x, y, z := ev("x"), ev("y"), ev("z")
	checkExprs(t, []exprCase{
		{`\x _ (y, z) C ~z -> x`, lam(x, pv("x"), pkids(api.PWild), pkids(api.PTuple, pv("y"), pv("z")), pcon("C"), pkids(api.PLazy, pv("z")))},
		{"let { y = 1 ; z = 2 } in x", let(x, value("y", ei(1)), value("z", ei(2)))},
		{"let { } in let { } in x :: T", let(let(signed(x, "T")))},
		{"if x then y else z + x", kids(api.EIf, x, y, infix("..", "+", z, x))},
		{"if x ; then y ; else z", kids(api.EIf, x, y, z)},
		{"case x of { ; y -> 1 ; ; z | x -> 2 | y -> 3 where { a = 1 } ; }", caseOf(x,
			api.Alt{Pat: pv("y"), Rhs: is(ei(1))},
			api.Alt{Pat: pv("z"), Rhs: []api.Rhs{guarded(x, ei(2)), guarded(y, ei(3))}, Where: []api.Decl{value("a", ei(1))}})},
		{"do { x <- y ; let { z = 1 } ; x }", do(gen(pv("x"), y), letStmt(value("z", ei(1))), exp(x))},
		{"do { let { } in x ; z }", do(exp(let(x)), exp(z))},
		{"do { C x : y <- z ; C x : y }", do(gen(pinfix(":", pcon("C", pv("x")), pv("y")), z), exp(infix("..", ":", app(ec("C"), x), y)))},
		{"do { if x ; then y ; else z ; x }", do(exp(kids(api.EIf, x, y, z)), exp(x))},
		{"[x | y <- z, let { x = 1 }, y z]", api.Expr{Op: api.EComp, Kids: []api.Expr{x}, Stmts: []api.Stmt{gen(pv("y"), z), letStmt(value("x", ei(1))), exp(app(y, z))}}},
		{"do\n  x\n  y", do(exp(x), exp(y))},
	})
}

// P7.1, P7.4: faults in expressions.
func TestExprFaults(t *testing.T) {
	end := api.Fault{Code: api.ErrSyntax, Name: "}"}
	checkFaults(t, Expr, func(e api.Expr) bool { return e.Op == 0 && e.Kids == nil }, []faultCase{
		{"", end},
		{"1 +", end},
		{"1 + = 2", at("=", 1, 5)},
		{"x y\nz", api.Fault{Code: api.ErrSyntax, Name: ";"}},
		{" x\ny", at("y", 2, 1)},
		{"{ x }", at("{", 1, 1)},
		{"module", at("module", 1, 1)},
		{"f @ x", at("@", 1, 3)},
		{"M.x @ y", at("@", 1, 5)},
		{"_", at("_", 1, 1)},
		{`f \x -> x`, at(`\`, 1, 3)},
		{`\ -> x`, at("->", 1, 3)},
		{`\x y`, end},
		{`\M.x -> x`, at("M.x", 1, 2)},
		{"(x + y :: T +)", at("+", 1, 13)},
		{`(\x -> x +)`, at(")", 1, 11)},
		{`(\x -> x :: T +)`, at(")", 1, 16)},
		{"(x + if x then y else z +)", at(")", 1, 26)},
		{"(let { } in x `f`)", at(")", 1, 18)},
		{"(x +, y)", at(",", 1, 5)},
		{"(x, y +)", at(")", 1, 8)},
		{"(+ x +)", at(")", 1, 7)},
		{"(`f`)", at(")", 1, 5)},
		{"x `f y", at("y", 1, 6)},
		{"x `+` y", at("+", 1, 4)},
		{"x ``", at("`", 1, 4)},
		{"(x", api.Fault{Code: api.ErrLayout, Name: "x", Line: 1, Col: 2}},
		{"[x ..]", at("]", 1, 6)},
		{"[x, y .. z]", at("..", 1, 7)},
		{"[x | y |]", at("|", 1, 8)},
		{"[x,]", at("]", 1, 4)},
		{"C { x = 1, }", at("}", 1, 12)},
		{"C { M.x = 1 }", at("M.x", 1, 5)},
		{"x :: forall", at("forall", 1, 6)},
		{"x :: 1", at("1", 1, 6)},
		{"x :: C a => => T", at("=>", 1, 13)},
		{"x :: C T => T", at("=>", 1, 10)},
		{"x :: ((C a)) => T", at("=>", 1, 14)},
		{"x :: (C a, D T) => T", at("=>", 1, 17)},
		{"case x of { y | z :: T -> 1 }", at("1", 1, 27)},
		{"case x of { y | z :: T -> a }", at("}", 1, 29)},
		{"case x of { y = 1 }", at("=", 1, 15)},
		{"case x of { y -> 1 | z -> 2 }", at("|", 1, 20)},
		{"case x of { y -> 1 z -> 2 }", at("->", 1, 22)},
		{"do { x <- y <- z }", at("<-", 1, 13)},
		{"do { x @ y }", at("}", 1, 12)},
		{"do { f x <- y }", at("<-", 1, 10)},
		{"do { let { } in x :: T + y }", at("+", 1, 24)},
		{"if x ; ; then y else z", at(";", 1, 8)},
		{"let { x = 1 } x", at("x", 1, 15)},
		{"let { data T } in x", at("data", 1, 7)},
		{"let { import M } in x", at("import", 1, 7)},
		{`x "a" = "b\n"`, at("=", 1, 7)},
		{"x = \"b\\n\"", at("=", 1, 3)},
		{"(- x -) 'a' ->", at("->", 1, 13)},
		{"let { x = 1 ; y } in x", at("}", 1, 17)},
	})
}

// P7.1: the text of the token that a fault names.
func TestFaultNames(t *testing.T) {
	for _, c := range []struct{ src, want string }{
		{"_ 1", "_"}, {`C { "a\n" = 1 }`, `"a\n"`}, {"C { 012 = 1 }", "12"}, {`C { '\'' = 1 }`, `'\''`}, {"C { M.+ = 1 }", "M.+"}, {"C { M.D = 1 }", "M.D"},
	} {
		if _, fault := Expr(c.src); fault.Code != api.ErrSyntax || fault.Name != c.want {
			t.Errorf("%q: %v, want the name %q", c.src, fault, c.want)
		}
	}
}
