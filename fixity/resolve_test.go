package fixity

import (
	"strings"
	"testing"

	"lazyc/api"
	"lazyc/syntax"
)

// brief returns a text in which operators stand between their operands in brackets, as far as the expression consists of such.
func brief(e api.Expr) string {
	if e.Op == api.EApp && e.Kids[0].Op == api.EApp {
		op := e.Kids[0].Kids[0]
		return "[" + brief(e.Kids[0].Kids[1]) + " " + op.Name + " " + brief(e.Kids[1]) + "]"
	}
	if e.Op == api.ENeg {
		return "[- " + brief(e.Kids[0]) + "]"
	}
	return syntax.PrintExpr(e)
}

// P8.3: precedence, associativity and negation.
func TestExpr(t *testing.T) {
	for _, c := range []struct{ src, want string }{
		{"x", "x"},
		{"((x))", "x"},
		{"1 + 2 * 3", "[1 + [2 * 3]]"},
		{"1 * 2 + 3", "[[1 * 2] + 3]"},
		{"a + b + c - d", "[[[a + b] + c] - d]"},
		{"a ++ b ++ c", "[a ++ [b ++ c]]"},
		{"a && b && c == d", "[a && [b && [c == d]]]"},
		{"a == b && c == d", "[[a == b] && [c == d]]"},
		{"(a == b) == c", "[[a == b] == c]"},
		{"a ? b ? c + d", "[[[a ? b] ? c] + d]"},
		{"a : b : c", "[a : [b : c]]"},
		{"a : b ++ c : d", "[a : [b ++ [c : d]]]"},
		{"a `f` b + c `f` d", "[[a f b] + [c f d]]"},
		{"a M.+ b * c", "[[a M.+ b] * c]"},
		{"- a", "[- a]"},
		{"- a - b", "[[- a] - b]"},
		{"- a * b", "[- [a * b]]"},
		{"- a * b + c", "[[- [a * b]] + c]"},
		{"- a == - b", "[[- a] == [- b]]"},
		{"a == - b + c", "[a == [[- b] + c]]"},
		{"a $ - b * c $ d", "[a $ [[- [b * c]] $ d]]"},
		{"- a ^ b", "[- [a ^ b]]"},
		{"a - (- b)", "[a - [- b]]"},
		{"(- a) * b", "[[- a] * b]"},
		{"(a + b) * (c)", "[[a + b] * c]"},
		{"f a b + c", "[[a f b] + c]"},
		{"a $ a >> b >> c $ d", "[a $ [[[a >> b] >> c] $ d]]"},
	} {
		e, fault := Expr(table(usualTable), expr(t, c.src))
		if got := brief(e); c.want != got || fault != (api.Fault{}) || !Resolved(e) {
			t.Errorf("%q: %v, %s, want %s", c.src, fault, got, c.want)
		}
	}
}

// P8.3: the operator is a constructor or a variable by the shape of its name.
func TestOperators(t *testing.T) {
	for _, c := range []struct {
		op   string
		want api.ExprOp
	}{
		{"+", api.EVar}, {"f", api.EVar}, {"M.+", api.EVar}, {"M.f", api.EVar}, {"-", api.EVar}, {"x$1", api.EVar}, {"+$1", api.EVar},
		{":", api.ECon}, {"C", api.ECon}, {"M.:+", api.ECon}, {"M.C", api.ECon}, {"C$1", api.ECon}, {"()", api.ECon}, {"(,)", api.ECon},
	} {
		a, b := api.Expr{Op: api.EInt, N: 1}, api.Expr{Op: api.EInt, N: 2}
		e := api.Expr{Op: api.EInfix, Kids: []api.Expr{a, b}, Names: []string{c.op}, Neg: []bool{false, false}}
		want := apply(apply(api.Expr{Op: c.want, Name: c.op}, a), b)
		if got, fault := Expr(nil, e); fault != (api.Fault{}) || !syntax.SameExpr(got, want) {
			t.Errorf("%q: %v, %v", c.op, fault, got)
		}
	}
}

// P8.3: operators that cannot be combined.
func TestExprFaults(t *testing.T) {
	for _, c := range []struct{ src, name string }{
		{"a == b == c", "=="},
		{"a == b <= c", "<="},
		{"a <= b == c", "=="},
		{"a == b ~~ c", "~~"},
		{"a ~~ b == c", "=="},
		{"a == b + c == d", "=="},
		{"a + b <> c", "<>"},
		{"a <> b + c", "+"},
		{"a - - b", "-"},
		{"a + - b", "-"},
		{"a * - b", "-"},
		{"a % - b", "-"},
		{"- a <> b", "<>"},
		{"- a % b", "%"},
		{"- a * b <> c", "<>"},
		{"a % b % - c", "%"},
		{"a == b == c <> d + e", "=="},
		{"a <> b + (c == d == e)", "=="},
		{"(a + b <> c) == (d == e == f)", "<>"},
		{`\(x :* y :% z) -> a == b == c`, ":%"},
		{"let { y = a + b <> c } in a == b == c", "<>"},
		{"case a == b == c of { x :* y :% z -> 1 }", "=="},
		{"case 1 of { x :* y :% z | a == b == c -> 1 }", ":%"},
		{"case 1 of { x | a == b == c -> a + b <> c where { x :* y :% z = 1 } }", "=="},
		{"do { x :* y :% z <- a == b == c ; a + b <> c }", ":%"},
		{"[a == b == c | x :* y :% z <- 1]", "=="},
		{"C { x = a == b == c, y = a + b <> c }", "=="},
		{"(a == b == c) { x = a + b <> c }", "=="},
		{"a == b == c :: T", "=="},
		{"if a == b == c then a + b <> c else 1", "=="},
	} {
		e, fault := Expr(table(usualTable), expr(t, c.src))
		if fault != (api.Fault{Code: api.ErrFixity, Name: c.name}) || !isNone(e) {
			t.Errorf("%q: %v with %v, want the name %s", c.src, fault, e, c.name)
		}
	}
}

// P8.3: the operator of a section is applied last.
func TestSections(t *testing.T) {
	for _, c := range []struct{ src, want, fault string }{
		{"(a +)", "( a + )", ""},
		{"(a * b +)", "( ( * ) a b + )", ""},
		{"(a + b *)", "", "*"},
		{"(a + b +)", "( ( + ) a b + )", ""},
		{"(a ++ b ++)", "", "++"},
		{"(a == b ==)", "", "=="},
		{"(a == b <=)", "", "<="},
		{"((a + b) *)", "( ( + ) a b * )", ""},
		{"(- a +)", "( ( - a ) + )", ""},
		{"(- a *)", "", "*"},
		{"(- a <>)", "", "<>"},
		{"(a == b + c ==)", "", "=="},
		{"(a == b == c +)", "", "=="},
		{"(+ a)", "( + a )", ""},
		{"(+ a * b)", "( + ( * ) a b )", ""},
		{"(* a + b)", "", "*"},
		{"(+ a + b)", "", "+"},
		{"(++ a ++ b)", "( ++ ( ++ ) a b )", ""},
		{"(== a <= b)", "", "=="},
		{"(== - a)", "( == ( - a ) )", ""},
		{"(+ - a)", "", "+"},
		{"(* - a)", "", "*"},
		{"(== - a * b)", "( == ( - ( * ) a b ) )", ""},
		{"($ a == b == c)", "", "=="},
		{"(* (a + b))", "( * ( + ) a b )", ""},
		{"(`f` a + b)", "", "f"},
		{"(a : b :)", "", ":"},
		{"(: a : b)", "( : ( : ) a b )", ""},
	} {
		e, fault := Expr(table(usualTable), expr(t, c.src))
		want := api.Fault{}
		if c.fault != "" {
			want = api.Fault{Code: api.ErrFixity, Name: c.fault}
		}
		if fault != want || syntax.PrintExpr(e) != c.want {
			t.Errorf("%q: %v, %q, want %v, %q", c.src, fault, syntax.PrintExpr(e), want, c.want)
		}
	}
}

// P8.3: patterns.
func TestPat(t *testing.T) {
	for _, c := range []struct{ src, want, fault string }{
		{"x", "x", ""},
		{"((x))", "x", ""},
		{"x : y : z", "( : ) x ( ( : ) y z )", ""},
		{"x :* y : z", "( : ) ( ( :* ) x y ) z", ""},
		{"x :+ y :+ z", "( :+ ) ( ( :+ ) x y ) z", ""},
		{"- 1 :+ C (x : y) `D` [z :* - 2, (1)]", "D ( ( :+ ) ( - 1 ) ( C ( ( : ) x y ) ) ) [ ( :* ) z ( - 2 ) , 1 ]", ""},
		{"x@(y : z)", "x @ ( ( : ) y z )", ""},
		{"C { a = (x : y), b = ~(z) }", "C { a = ( : ) x y , b = ~ z }", ""},
		{"x :* y :% z", "", ":%"},
		{"x :% y :% z", "", ":%"},
		{"(x :% y :% z) : (x :* y :% z)", "", ":%"},
		{"x :* y :% (x :% y : z :% w :% v)", "", ":%"},
	} {
		p, fault := Pat(table(usualTable), pat(t, c.src))
		want := api.Fault{}
		if c.fault != "" {
			want = api.Fault{Code: api.ErrFixity, Name: c.fault}
		}
		if fault != want || syntax.PrintPat(p) != c.want || !isResolvedPat(p) {
			t.Errorf("%q: %v, %q, want %v, %q", c.src, fault, syntax.PrintPat(p), want, c.want)
		}
	}
}

// P8.4: modules.
func TestModule(t *testing.T) {
	imported := table("l6 + n4 == r7 :*")
	for _, c := range []struct {
		src, want string
		fault     api.Fault
	}{
		{"f = a + b + c", "module Main where { f = ( + ) ( ( + ) a b ) c }", api.Fault{}},
		{"infixr 6 + ; a + (b) = (a + b + c)", "module Main where { infixr 6 + ; ( + ) a b = ( + ) a ( ( + ) b c ) }", api.Fault{}},
		{"module M ( T ( A ) , f ) where { import N hiding ( x , U ( .. ) ) ; data T a = A { x :: [a] } deriving ( Eq ) ; f :: ( C a ) => a ; (f, g) = ((1), 2) where { h | (a) = (b) } ; " +
			"class ( D a ) => C a where { f :: a -> a ; f x = (x) } ; instance ( C a ) => C [a] where { f ((x : y)) = do { z <- (x) ; let { w = (y) } ; (z) } } }",
			"module M ( T ( A ) , f ) where { import N hiding ( x , U ( .. ) ) ; data T a = A { x :: [a] } deriving ( Eq ) ; f :: ( C a ) => a ; ( f , g ) = ( 1 , 2 ) where { h | a = b } ; " +
				"class ( D a ) => C a where { f :: a -> a ; f x = x } ; instance ( C a ) => C [a] where { f ( ( : ) x y ) = do { z <- x ; let { w = y } ; z } } }", api.Fault{}},
		{"f = a == b == c ; g = a + b ; infix 3 +", "", api.Fault{Code: api.ErrScope, Name: "+"}},
		{"f = (a == b == c) ; infix 6 + ; g = a + b + c ; a + b = a", "", api.Fault{Code: api.ErrFixity, Name: "=="}},
		{"f (x :* y) = 1 where { g = a == b == c } ; f (x :% y :% z) = 2 ; infix 6 :% ; data T = A :% A", "", api.Fault{Code: api.ErrFixity, Name: "=="}},
		{"f (x :% y :% z) = a == b == c ; infix 6 :% ; data T = A :% A", "", api.Fault{Code: api.ErrFixity, Name: ":%"}},
		{"x : y :% z :% w | a == b == c = 1 ; infix 6 :% ; data T = A :% A", "", api.Fault{Code: api.ErrFixity, Name: ":%"}},
		{"[x] | a == b == c = a + b - c where { f = a == b == c }", "", api.Fault{Code: api.ErrFixity, Name: "=="}},
		{"class C a where { f x = a == b == c }", "", api.Fault{Code: api.ErrFixity, Name: "=="}},
		{"(x) = 1", "", api.Fault{Code: api.ErrArg}},
		{"f = " + strings.Repeat("a : ", 150) + "b", "", api.Fault{Code: api.ErrDepth}},
	} {
		m, fault := Module(imported, module(t, c.src))
		if fault != c.fault || syntax.Print(m) != c.want {
			t.Errorf("%q: %v, %s", c.src, fault, syntax.Print(m))
		}
	}
}

// P8.3: what is not too deep as a sequence may be so as a tree.
func TestDepth(t *testing.T) {
	for _, c := range []struct {
		ops  int
		want api.Errno
	}{{98, api.OK}, {99, api.ErrDepth}, {8000, api.ErrDepth}} {
		e, fault := Expr(table("r5 +"), expr(t, strings.Repeat("a + ", c.ops)+"b"))
		if fault != (api.Fault{Code: c.want}) || isNone(e) != (c.want != api.OK) {
			t.Errorf("%d operators: %v", c.ops, fault)
		}
		p, fault := Pat(nil, pat(t, strings.Repeat("a : ", c.ops)+"b"))
		if fault != (api.Fault{Code: c.want}) || (p.Op == 0) != (c.want != api.OK) {
			t.Errorf("%d operators of a pattern: %v", c.ops, fault)
		}
	}
}

// P8.5: sequences and parentheses anywhere.
func TestResolved(t *testing.T) {
	for _, src := range []string{"x", "f x (+)", `\x -> y`, "let { f x = y ; g :: a ; (x, y) = z } in w", "case x of { y | z -> w where { f = a } }", "do { x <- y ; let { a = b } ; z }", "[x | y <- z]", "C { a = b } { c = d }"} {
		if !Resolved(expr(t, src)) {
			t.Errorf("%q is not resolved", src)
		}
	}
	for _, place := range []string{"(x)", "f (x)", `\(x) -> y`, `\C { a = [(x)] } -> y`, `\x -> (y)`, "let { f (x) = y } in w", "let { f x = (y) } in w", "let { f x | (y) = z } in w", "let { f x = y where { g = (z) } } in w",
		"let { (x) = y } in z", "let { [x] = (y) } in z", "let { [x] | (y) = z } in w", "let { [x] = y where { f = (z) } } in z", "let { x = y } in (z)",
		"case (x) of { y -> z }", "case x of { (y) -> z }", "case x of { y | (z) -> w }", "case x of { y -> (z) }", "case x of { y -> z where { f = (a) } }",
		"do { [(x)] <- y ; z }", "do { x <- (y) ; z }", "do { let { a = (b) } ; z }", "do { (z) }", "[(x) | y]", "[x | (y)]", "C { a = (b) }", "x { a = (b) }", "((x) +)", "((x) , y)", "(x) :: T"} {
		one := expr(t, place)
		two := expr(t, strings.NewReplacer("(x)", "(x : x)", "(y)", "(y : y)", "(z)", "(z : z)", "(a)", "(a : a)", "(b)", "(b : b)").Replace(place))
		if Resolved(one) || Resolved(two) {
			t.Errorf("%q is resolved", place)
		}
		if e, fault := Expr(nil, two); fault != (api.Fault{}) || !Resolved(e) {
			t.Errorf("%q: %v", place, fault)
		}
	}
	inner := api.Decl{Op: api.DInst, Decls: []api.Decl{{Op: api.DPat, Pat: api.Pat{Op: api.PParen}}}}
	if Resolved(api.Expr{Op: api.EInfix}) || Resolved(api.Expr{Decls: []api.Decl{inner}}) || !Resolved(api.Expr{}) {
		t.Error("trees that are not well formed")
	}
}
