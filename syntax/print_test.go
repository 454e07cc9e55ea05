package syntax

import (
	"strings"
	"testing"

	"lazyc/api"
)

// checkText compares a text, in which units of names and types contain blanks only where they should.
func checkText(t *testing.T, got, want string) {
	t.Helper()
	if got != want {
		t.Errorf("got  %q\nwant %q", got, want)
	}
}

// P6.2: the forms of expressions.
func TestPrintExpr(t *testing.T) {
	f, a := ev("f"), ec("A")
	for _, test := range []struct {
		e    api.Expr
		want string
	}{
		{x, "x"},
		{ev("M.x"), "M.x"},
		{ev("x$1"), "x$1"},
		{ev("+"), "( + )"},
		{ev("-"), "( - )"},
		{ev("M.+$2"), "( M.+$2 )"},
		{a, "A"},
		{ec(":"), "( : )"},
		{ec("M.:+"), "( M.:+ )"},
		{ec("()"), "()"}, {ec("[]"), "[]"}, {ec("(,,)"), "(,,)"}, {ei(0), "0"}, {ei(api.MaxInt), "9223372036854775807"},
		{api.Expr{Op: api.EChar, N: '\''}, `'\''`},
		{api.Expr{Op: api.EChar, N: 255}, `'\xff'`},
		{api.Expr{Op: api.EString, Text: "a \"\n"}, `"a \"\n"`},
		{api.Expr{Op: api.EString}, `""`},
		{app(app(f, x), y), "f x y"}, {app(f, app(f, x)), "f ( f x )"}, {app(f, neg(x)), "f ( - x )"},
		{infix("+ * x A", x, y, ei(1), f, a), "x + y * 1 ` x ` f ` A ` A"},
		{infix(": M.:+ M.- M.x ()", x, x, x, x, x, x), "x : x M.:+ x M.- x ` M.x ` x ` () ` x"},
		{negated("- -", infix("+ -", x, y, x)), "- x + y - - x"}, {negated("-", infix("", x)), "- x"}, {neg(x), "- x"},
		{lam(x, pv("x")), `\ x -> x`}, {lam(x, wild(), pcon("A", wild()), pi(-1), as("+", pv("z"))), `\ _ ( A _ ) ( - 1 ) ( + ) @ z -> x`},
		{let(x), "let { } in x"},
		{let(x, value("y", x)), "let { y = x } in x"},
		{let(x, sig("x y", "a"), patDecl(wild(), x)), "let { x , y :: a ; _ = x } in x"},
		{kids(api.EIf, x, y, f), "if x then y else f"}, {caseOf(x, alt(wild(), y)), "case x of { _ -> y }"},
		{caseOf(x, alt(pcon("A"), y, value("z", x)), alt(pinfix(":", wild(), wild()), x)), "case x of { A -> y where { z = x } ; _ : _ -> x }"},
		{caseOf(x, api.Alt{Pat: wild(), Rhs: []api.Rhs{guarded(x, y), guarded(y, x)}}), "case x of { _ | x -> y | y -> x }"},
		{do(exp(x)), "do { x }"}, {do(gen(pv("x"), y), letStmt(value("z", x)), letStmt(), exp(x)), "do { x <- y ; let { z = x } ; let { } ; x }"},
		{api.Expr{Op: api.EDo, Names: []string{"M.>>=", "M.>>"}, Stmts: []api.Stmt{exp(x)}}, "do { x }"},
		{kids(api.ETuple), "( )"},
		{kids(api.ETuple, x, y, f), "( x , y , f )"},
		{kids(api.EList), "[ ]"},
		{kids(api.EList, x), "[ x ]"},
		{kids(api.EList, x, y), "[ x , y ]"},
		{comp(x, exp(y)), "[ x | y ]"},
		{comp(x, gen(wild(), y), letStmt(value("z", x)), exp(f)), "[ x | _ <- y , let { z = x } , f ]"},
		{kids(api.ERange, x, y), "[ x .. y ]"},
		{section(api.ELeft, "+", x), "( x + )"},
		{section(api.ELeft, "f", x), "( x ` f ` )"},
		{section(api.ERight, ":", x), "( : x )"},
		{section(api.ERight, "A", x), "( ` A ` x )"},
		{section(api.ELeft, "-", x), "( x - )"},
		{signed(x, "(a -> b) -> [a]"), "x :: (a -> b) -> [a]"}, {signed(x, "Maybe a", pred("Eq", "a")), "x :: ( Eq a ) => Maybe a"},
		{signed(x, "a", pred("Eq", "a"), pred("M.Ord", "b"), pred(":+", "c")), "x :: ( Eq a , M.Ord b , ( :+ ) c ) => a"},
		{record("A"), "A { }"},
		{record("A", field("x", y)), "A { x = y }"},
		{record(":+", field("+", y), field("M.x", neg(x))), "( :+ ) { ( + ) = y , M.x = - x }"},
		{update(x, field("x", y), field("y", x)), "x { x = y , y = x }"},
		{update(a, field("x", y)), "( A ) { x = y }"},
		{update(ec("()"), field("x", y)), "( () ) { x = y }"},
		{update(kids(api.EParen, a), field("x", y)), "( A ) { x = y }"},
		{update(record("A"), field("x", y)), "A { } { x = y }"},
		{kids(api.EParen, x), "( x )"},
		{kids(api.EParen, kids(api.EParen, neg(x))), "( ( - x ) )"},
	} {
		checkText(t, PrintExpr(test.e), test.want)
	}
}

// P6.2: the forms of patterns.
func TestPrintPat(t *testing.T) {
	one := pcon("A", wild())
	for _, test := range []struct {
		p    api.Pat
		want string
	}{
		{pv("x"), "x"}, {pv("+"), "( + )"}, {wild(), "_"}, {pi(3), "3"}, {pi(0), "0"}, {pi(-3), "- 3"}, {pi(-api.MaxInt), "- 9223372036854775807"},
		{api.Pat{Op: api.PChar, N: 10}, `'\n'`},
		{api.Pat{Op: api.PString, Text: "a;"}, `"a;"`},
		{pcon("A"), "A"},
		{pcon("[]"), "[]"},
		{pcon(":+", wild(), pv("x")), "( :+ ) _ x"},
		{pcon("A", one, pcon("B"), pi(-1), pi(1), pinfix(":", wild(), wild())), "A ( A _ ) B ( - 1 ) 1 ( _ : _ )"}, {pcon("()", wild()), "() _"},
		{pkids(api.PTuple), "( )"},
		{pkids(api.PTuple, one, pi(-1), pinfix(":", wild(), wild())), "( A _ , - 1 , _ : _ )"},
		{pkids(api.PList), "[ ]"},
		{pkids(api.PList, one, pi(-1)), "[ A _ , - 1 ]"},
		{as("x", wild()), "x @ _"},
		{as("+", one), "( + ) @ ( A _ )"},
		{as("x", pi(-1)), "x @ ( - 1 )"},
		{as("x", as("y", pkids(api.PLazy, wild()))), "x @ y @ ~ _"},
		{pkids(api.PLazy, one), "~ ( A _ )"},
		{pkids(api.PLazy, pinfix(":", wild(), wild())), "~ ( _ : _ )"},
		{pkids(api.PLazy, precord("A", "")), "~ A { }"},
		{precord("A", ""), "A { }"}, {precord("M.:+", "x +", one, pinfix(":", wild(), wild())), "( M.:+ ) { x = A _ , ( + ) = _ : _ }"},
		{pinfix(": A :+", one, pi(-1), pi(1), pcon("B")), "A _ : - 1 ` A ` 1 :+ B"},
		{pinfix(":", pinfix(":", wild(), wild()), pinfix(":", wild(), wild())), "( _ : _ ) : ( _ : _ )"},
		{pkids(api.PParen, one), "( A _ )"}, {pcon("A", pkids(api.PParen, one)), "A ( A _ )"},
	} {
		checkText(t, PrintPat(test.p), test.want)
		checkText(t, PrintDecl(fun("f", clause(x, pkids(api.PParen, test.p)))), "f ( "+test.want+" ) = x")
		if test.p.Op != api.PVar {
			checkText(t, PrintDecl(patDecl(test.p, x)), test.want+" = x")
		}
		checkText(t, PrintExpr(comp(x, gen(test.p, y))), "[ x | "+test.want+" <- y ]")
	}
	checkText(t, PrintDecl(fun("f", clause(x, one, pi(-1), pi(1), pcon("A"), as("x", one)))), "f ( A _ ) ( - 1 ) 1 A x @ ( A _ ) = x")
}

// P6.2: the forms of declarations.
func TestPrintDecl(t *testing.T) {
	derive := func(d api.Decl, classes string) api.Decl { d.Derive = words(classes); return d }
	rhs := []api.Rhs{guarded(x, y), guarded(neg(x), y)}
	for _, test := range []struct {
		d    api.Decl
		want string
	}{
		{data("T", ""), "data T"}, {data(":+", "a b"), "data ( :+ ) a b"}, {data("T", "a", con("A", "a"), con("B", "")), "data T a = A a | B"},
		{data("T", "", con("A", "Maybe a; [a]; (a, b); (,) a; (,,) a b; () a; a -> b; [] a b; (,) a b c; f a; Int; (->) a; (->); []; (:+); (M.:+) a")),
			"data T = A ( Maybe a ) [a] (a, b) ( (,) a ) ( (,,) a b ) ( () a ) ( a -> b ) ( [a] b ) ( (a, b) c ) ( f a ) Int ( (->) a ) (->) [] (:+) ( (M.:+) a )"},
		{data("T", "", con(":+", "a; Maybe b")), "data T = ( :+ ) a ( Maybe b )"},
		{data("T", "", labelled("x + y", con("A", "a; Maybe a; a -> b")), labelled("x", con(":+", "Int"))), "data T = A { x :: a , ( + ) :: Maybe a , y :: a -> b } | ( :+ ) { x :: Int }"},
		{derive(data("T", ""), "Eq M.Ord :+"), "data T deriving ( Eq , M.Ord , ( :+ ) )"},
		{derive(data("T", "", con("A", "")), "Eq"), "data T = A deriving ( Eq )"},
		{class("C", "a"), "class C a"}, {given(class("C", "a", sig("x", "a")), pred("D", "a")), "class ( D a ) => C a where { x :: a }"},
		{class(":+", "a", sig("+ x", "a"), fun("+", clause(x, wild()))), "class ( :+ ) a where { ( + ) , x :: a ; ( + ) _ = x }"},
		{inst("C", "Int"), "instance C Int"},
		{inst("C", "Maybe a", value("x", y)), "instance C ( Maybe a ) where { x = y }"},
		{inst(":+", "[a]"), "instance ( :+ ) [a]"},
		{given(inst("M.C", "(a, b)"), pred("C", "a"), pred("C", "b")), "instance ( C a , C b ) => M.C (a, b)"},
		{inst("C", "a -> b"), "instance C ( a -> b )"},
		{inst("C", "(->)"), "instance C (->)"},
		{sig("x", "a -> b"), "x :: a -> b"}, {sig("x + y", "Maybe a", pred("C", "a")), "x , ( + ) , y :: ( C a ) => Maybe a"},
		{fix(api.AssocNone, 9, "=="), "infix 9 =="},
		{fix(api.AssocLeft, 0, "+ f A : M.x"), "infixl 0 + , ` f ` , ` A ` , : , ` M.x `"},
		{fix(api.AssocRight, 5, ":+"), "infixr 5 :+"},
		{value("x", y), "x = y"}, {value("+", y), "( + ) = y"}, {fun("f", clause(x, wild()), clause(y, pv("y"))), "f _ = x ; f y = y"},
		{fun("+", clause(x, wild(), pcon("A", wild()))), "( + ) _ ( A _ ) = x"}, {fun("f", api.Clause{Rhs: rhs}), "f | x = y | - x = y"},
		{fun("f", api.Clause{Rhs: rhs, Where: []api.Decl{value("y", x), sig("y", "a")}}), "f | x = y | - x = y where { y = x ; y :: a }"},
		{patDecl(pcon("A", pv("x")), y), "A x = y"},
		{patDecl(pkids(api.PParen, pv("x")), y, value("z", x)), "( x ) = y where { z = x }"},
		{patDecl(pinfix(":", pv("x"), pv("y")), neg(x)), "x : y = - x"},
		{api.Decl{Op: api.DPat, Pat: wild(), Rhs: rhs}, "_ | x = y | - x = y"},
		{class("C", "a", fun("f", clause(x, wild()), clause(y, wild())), value("x", y)), "class C a where { f _ = x ; f _ = y ; x = y }"},
	} {
		checkText(t, PrintDecl(test.d), test.want)
		checkText(t, Print(main(test.d)), "module Main where { "+test.want+" }")
	}
}

// P6.2: modules, with what they export and import.
func TestPrintModule(t *testing.T) {
	exports := []api.Export{{Name: "x"}, {Name: "+"}, {Name: "M.x"}, {Name: "T"}, {Name: "T", With: true}, {Name: "M.T", Subs: []string{"A", "x", ":+", "+"}}, {Name: ":+", With: true}}
	list := "( x , ( + ) , M.x , T , T ( .. ) , M.T ( A , x , ( :+ ) , ( + ) ) , ( :+ ) ( .. ) )"
	for _, test := range []struct {
		m    api.Module
		want string
	}{
		{main(), "module Main where { }"},
		{api.Module{Name: "M"}, "module M ( ) where { }"},
		{api.Module{Name: "M", Exports: exports}, "module M " + list + " where { }"},
		{main(value("f", x), data("T", "a", con("A", "a"), con("B", ""))), "module Main where { f = x ; data T a = A a | B }"},
		{importing(api.Import{Module: "M", As: "M", All: true}), "module Main ( ) where { import M }"},
		{importing(api.Import{Module: "M", As: "N", Qualified: true, All: true}, api.Import{Module: "M", As: "M"}), "module Main ( ) where { import qualified M as N ; import M ( ) }"},
		{importing(api.Import{Module: "M", As: "M", Names: exports}), "module Main ( ) where { import M " + list + " }"},
		{importing(api.Import{Module: "M", As: "N", Hiding: true, Names: exports}), "module Main ( ) where { import M as N hiding " + list + " }"},
		{importing(api.Import{Module: "M", As: "M", Hiding: true, Qualified: true}), "module Main ( ) where { import qualified M hiding ( ) }"},
		{api.Module{Name: "M", All: true, Imports: []api.Import{{Module: "N", As: "N", All: true}}, Decls: []api.Decl{value("f", x), value("g", y)}}, "module M where { import N ; f = x ; g = y }"},
		{api.Module{Name: "M", All: true, Imports: []api.Import{{Module: "N", As: "N", All: true}}, Decls: []api.Decl{value("f", x)}}, "module M where { import N ; f = x }"},
		{exporting(api.Export{Name: "T", Subs: []string{"A"}}), "module Main ( T ( A ) ) where { }"},
	} {
		checkText(t, Print(test.m), test.want)
	}
}

// P6.2: nothing is written of a tree with an error.
func TestPrintErrors(t *testing.T) {
	for _, e := range []api.Expr{{}, ei(-1), deep(101), broad(20001), app(x, api.Expr{})} {
		checkText(t, PrintExpr(e), "")
	}
	for _, p := range []api.Pat{{}, pv("A"), deepPat(100), pkids(api.PList, make([]api.Pat, 201)...), pcon("A", make([]api.Pat, 3)...)} {
		checkText(t, PrintPat(p), "")
	}
	if PrintPat(deepPat(99)) == "" || PrintExpr(deep(100)) == "" || PrintExpr(broad(20000)) == "" {
		t.Error("a tree within the limits has no text")
	}
	for _, d := range []api.Decl{{}, value("A", x), value("x", deep(98)), value("x", broad(19998))} {
		checkText(t, PrintDecl(d), "")
		checkText(t, Print(main(d)), "")
	}
	if PrintDecl(value("x", deep(97))) == "" || PrintDecl(value("x", broad(19997))) == "" {
		t.Error("a declaration within the limits has no text")
	}
	checkText(t, Print(api.Module{Name: "m"}), "")
}

// part is an expression or a pattern with its level, and whether it is open.
type part[T any] struct {
	tree  T
	level int
	open  bool
}

func exprParts() []part[api.Expr] {
	plus := func(e api.Expr) api.Expr { return infix("+", x, e) }
	alone := func(e api.Expr) api.Expr { return negated("-", infix("", e)) }
	lambda, given, cond := lam(x, wild()), let(x), kids(api.EIf, x, x, x)
	list := []part[api.Expr]{
		{neg(x), 0, false},
		{signed(x, "a"), 0, false},
		{neg(lambda), 0, false},
		{plus(x), 1, false},
		{alone(x), 1, false},
		{plus(lambda), 1, true},
		{plus(given), 1, true},
		{plus(cond), 1, true},
		{alone(lambda), 1, true},
		{plus(do(exp(x))), 1, false},
		{infix("+", lambda, x), 1, false},
		{plus(plus(lambda)), 1, true},
		{plus(neg(lambda)), 1, false},
		{plus(app(x, lambda)), 1, false},
		{lambda, 2, true},
		{given, 2, true},
		{cond, 2, true},
		{caseOf(x, alt(wild(), lambda)), 2, false},
		{do(exp(lambda)), 2, false},
		{app(x, y), 3, false},
		{app(x, lambda), 3, false},
	}
	for _, e := range []api.Expr{x, ev("+"), ec(":"), ei(3), {Op: api.EChar}, {Op: api.EString}, kids(api.ETuple), kids(api.EList, x), comp(x, exp(lambda)),
		kids(api.ERange, x, lambda), section(api.ELeft, "+", x), section(api.ERight, "+", lambda), record("A"), update(x, field("x", lambda)), kids(api.EParen, lambda)} {
		list = append(list, part[api.Expr]{e, 4, false})
	}
	return list
}

// checkPlaces checks that parts stand in parentheses exactly where they must, at the places for which the text has #.
func checkPlaces[T any](t *testing.T, parts []part[T], level int, closed bool, text string, write func(T) string, alone func(T) string) {
	t.Helper()
	for _, part := range parts {
		inside := alone(part.tree)
		if part.level < level || closed && part.open {
			inside = "( " + inside + " )"
		}
		checkText(t, write(part.tree), strings.ReplaceAll(text, "#", inside))
	}
}

// P6.2: parentheses around expressions.
func TestExprParentheses(t *testing.T) {
	field := func(e api.Expr) api.Field { return field("x", e) }
	for _, place := range []struct {
		text   string
		level  int
		closed bool
		with   func(e api.Expr) api.Expr
	}{
		{"# + x", 2, true, func(e api.Expr) api.Expr { return infix("+", e, x) }},
		{"x + # - x", 2, true, func(e api.Expr) api.Expr { return infix("+ -", x, e, x) }},
		{"x + #", 2, false, func(e api.Expr) api.Expr { return infix("+", x, e) }},
		{"- #", 2, false, func(e api.Expr) api.Expr { return negated("-", infix("", e)) }},
		{"- # + x", 2, true, func(e api.Expr) api.Expr { return negated("- ", infix("+", e, x)) }},
		{"- #", 2, false, neg}, {"( # + )", 1, true, func(e api.Expr) api.Expr { return section(api.ELeft, "+", e) }},
		{"( + # )", 1, false, func(e api.Expr) api.Expr { return section(api.ERight, "+", e) }},
		{"# :: a", 1, true, func(e api.Expr) api.Expr { return signed(e, "a") }},
		{"# x", 3, false, func(e api.Expr) api.Expr { return app(e, x) }}, {"x #", 4, false, func(e api.Expr) api.Expr { return app(x, e) }},
		{`\ _ -> #`, 0, false, func(e api.Expr) api.Expr { return lam(e, wild()) }},
		{"let { y = # } in #", 0, false, func(e api.Expr) api.Expr { return let(e, value("y", e)) }},
		{"if # then # else #", 0, false, func(e api.Expr) api.Expr { return kids(api.EIf, e, e, e) }},
		{"case # of { _ -> # }", 0, false, func(e api.Expr) api.Expr { return caseOf(e, alt(wild(), e)) }},
		{"case x of { _ | # -> # | # -> # }", 0, false, func(e api.Expr) api.Expr {
			return caseOf(x, api.Alt{Pat: wild(), Rhs: []api.Rhs{guarded(e, e), guarded(e, e)}})
		}},
		{"do { _ <- # ; # ; let { _ = # } ; # }", 0, false, func(e api.Expr) api.Expr { return do(gen(wild(), e), exp(e), letStmt(patDecl(wild(), e)), exp(e)) }},
		{"( # , # )", 0, false, func(e api.Expr) api.Expr { return kids(api.ETuple, e, e) }},
		{"[ # , # ]", 0, false, func(e api.Expr) api.Expr { return kids(api.EList, e, e) }},
		{"[ # | _ <- # , # ]", 0, false, func(e api.Expr) api.Expr { return comp(e, gen(wild(), e), exp(e)) }},
		{"[ # .. # ]", 0, false, func(e api.Expr) api.Expr { return kids(api.ERange, e, e) }},
		{"A { x = # , x = # }", 0, false, func(e api.Expr) api.Expr { return record("A", field(e), field(e)) }},
		{"x { x = # }", 0, false, func(e api.Expr) api.Expr { return update(x, field(e)) }},
		{"( # )", 0, false, func(e api.Expr) api.Expr { return kids(api.EParen, e) }},
	} {
		checkPlaces(t, exprParts(), place.level, place.closed, place.text, func(e api.Expr) string { return PrintExpr(place.with(e)) }, PrintExpr)
	}
	for _, part := range exprParts() {
		inside := PrintExpr(part.tree)
		if part.level < 4 || part.tree.Op == api.ECon {
			inside = "( " + inside + " )"
		}
		checkText(t, PrintExpr(update(part.tree, field(x))), inside+" { x = x }")
	}
}

// P6.2: parentheses around patterns.
func TestPatParentheses(t *testing.T) {
	parts := []part[api.Pat]{
		{pinfix(":", wild(), wild()), 0, false},
		{pi(-1), 1, false},
		{pi(-api.MaxInt), 1, false},
		{pcon("A", wild()), 1, false},
		{pcon(":", wild(), wild()), 1, false},
		{pi(0), 2, false},
		{pi(1), 2, false},
		{pcon("A"), 2, false},
		{pv("x"), 2, false},
		{pv("+"), 2, false},
		{wild(), 2, false},
		{api.Pat{Op: api.PChar}, 2, false},
		{api.Pat{Op: api.PString}, 2, false},
		{pkids(api.PTuple), 2, false},
		{pkids(api.PList, pi(-1)), 2, false},
		{as("x", wild()), 2, false},
		{pkids(api.PLazy, wild()), 2, false},
		{precord("A", "x", pi(-1)), 2, false},
		{pkids(api.PParen, pi(-1)), 2, false},
	}
	for _, place := range []struct {
		text  string
		level int
		with  func(p api.Pat) api.Expr
	}{
		{`\ # _ # -> x`, 2, func(p api.Pat) api.Expr { return lam(x, p, wild(), p) }},
		{"let { f # = x } in x", 2, func(p api.Pat) api.Expr { return let(x, fun("f", clause(x, p))) }},
		{`\ y @ # ~ # -> x`, 2, func(p api.Pat) api.Expr { return lam(x, as("y", p), pkids(api.PLazy, p)) }},
		{"case x of { A # # -> x }", 2, func(p api.Pat) api.Expr { return caseOf(x, alt(pcon("A", p, p), x)) }},
		{"case x of { # : # :+ # -> x }", 1, func(p api.Pat) api.Expr { return caseOf(x, alt(pinfix(": :+", p, p, p), x)) }},
		{"case x of { # -> x }", 0, func(p api.Pat) api.Expr { return caseOf(x, alt(p, x)) }},
		{"[ x | # <- x ]", 0, func(p api.Pat) api.Expr { return comp(x, gen(p, x)) }},
		{`\ ( # , # ) [ # ] A { x = # , y = # } ( # ) -> x`, 0, func(p api.Pat) api.Expr {
			return lam(x, pkids(api.PTuple, p, p), pkids(api.PList, p), precord("A", "x y", p, p), pkids(api.PParen, p))
		}},
	} {
		checkPlaces(t, parts, place.level, false, place.text, func(p api.Pat) string { return PrintExpr(place.with(p)) }, PrintPat)
	}
}
