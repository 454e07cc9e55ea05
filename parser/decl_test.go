package parser

import (
	"strings"
	"testing"

	"lazyc/api"
	"lazyc/syntax"
)

func repeated(s string, n int) string { return strings.Repeat(s, n) }

// nested returns x in n pairs of brackets.
func nested(open string, n int, end string) string { return repeated(open, n) + "x" + repeated(end, n) }

func sameDecls(a, b []api.Decl) bool { return syntax.Same(main(a...), main(b...)) }

type declCase struct {
	src  string
	want []api.Decl
}

func checkDeclCases(t *testing.T, cases []declCase) {
	t.Helper()
	for _, c := range cases {
		got, fault := Decls(c.src)
		if fault != (api.Fault{}) || !sameDecls(got, c.want) {
			t.Errorf("%q: %v with\n%v, want\n%v", c.src, fault, got, c.want)
		}
	}
}

func decls(list ...api.Decl) []api.Decl { return list }

// P7.1: left sides of equations.
func TestLeftSides(t *testing.T) {
	e, f, g, x, y := ei(1), pv("f"), pv("g"), pv("x"), pv("y")
	one := func(name string, pats ...api.Pat) []api.Decl { return decls(fun(name, clause(e, pats...))) }
	pat := func(p api.Pat) []api.Decl { return decls(bind(p, e)) }
	checkDeclCases(t, []declCase{
		{"f = 1", one("f")},
		{"(+) = 1", one("+")},
		{"f x ~y 1 = 1", one("f", x, pkids(api.PLazy, y), pi(1))},
		{"(+) x y = 1", one("+", x, y)},
		{"f x@y = 1", one("f", as("x", y))},
		{"f (C x) = 1", one("f", pparen(pcon("C", x)))},
		{"x + y = 1", one("+", x, y)},
		{"x - y = 1", one("-", x, y)},
		{"x - 1 = 1", one("-", x, pi(1))},
		{"C - 1 = 1", one("-", pcon("C"), pi(1))},
		{"- 1 - - 1 = 1", one("-", pparen(pi(-1)), pparen(pi(-1)))},
		{"x `f` y = 1", one("f", x, y)},
		{"C x + D = 1", one("+", pparen(pcon("C", x)), pcon("D"))},
		{"x : y `f` x : y = 1", one("f", pparen(pinfix(":", x, y)), pparen(pinfix(":", x, y)))},
		{"(x) + (C y) = 1", one("+", pparen(x), pparen(pcon("C", y)))},
		{"x@y + _ = 1", one("+", as("x", y), api.Pat{Op: api.PWild})},
		{"(+) + (-) = 1", one("+", pv("+"), pv("-"))},
		{"(f . g) x = 1", one(".", f, g, x)},
		{"((f . g) x) y = 1", one(".", f, g, x, y)},
		{"(f x) y = 1", one("f", x, y)},
		{"(f) x = 1", one("f", x)},
		{"((f) x) y = 1", one("f", x, y)},
		{"((+) x) y = 1", one("+", x, y)},
		{"(C x + y) f g = 1", one("+", pparen(pcon("C", x)), y, f, g)},
		{"x : y = 1", pat(pinfix(":", x, y))},
		{"x `C` y = 1", pat(pinfix("C", x, y))},
		{"C x = 1", pat(pcon("C", x))},
		{"(:+) x y = 1", pat(pcon(":+", x, y))},
		{"() = 1", pat(pkids(api.PTuple))},
		{"() x = 1", pat(pcon("()", x))},
		{"(,) x y = 1", pat(pcon("(,)", x, y))},
		{"(x) = 1", pat(pparen(x))},
		{"((x)) = 1", pat(pparen(pparen(x)))},
		{"(- 1) = 1", pat(pparen(pi(-1)))},
		{"(x, y) = 1", pat(pkids(api.PTuple, x, y))},
		{"((x, y) : x, y) = 1", pat(pkids(api.PTuple, pinfix(":", pkids(api.PTuple, x, y), x), y))},
		{"(x, (y)) : x = 1", pat(pinfix(":", pkids(api.PTuple, x, pparen(y)), x))},
		{"x@y = 1", pat(as("x", y))},
		{"x@y : x = 1", pat(pinfix(":", as("x", y), x))},
		{"~x = 1", pat(pkids(api.PLazy, x))},
		{"[x] = 1", pat(pkids(api.PList, x))},
		{"_ = 1", pat(api.Pat{Op: api.PWild})},
		{"C { x = y } = 1", pat(precord("C", "x", y))},
	})
}

// P7.1: right-hand sides, where parts, signatures and fixity declarations.
func TestLocalDecls(t *testing.T) {
	x, y := ev("x"), ev("y")
	rhs := []api.Rhs{guarded(x, ei(1)), guarded(y, ei(2))}
	where := []api.Decl{value("x", y)}
	checkDeclCases(t, []declCase{
		{"", nil},
		{"{ ; ; }", nil},
		{"{ ; x = y ; ; x = 1 ; }", decls(value("x", y), value("x", ei(1)))},
		{"f | x = 1 | y = 2 where { x = y }", decls(api.Decl{Op: api.DFun, Name: "f", Clauses: []api.Clause{{Rhs: rhs, Where: where}}})},
		{"_ | x = 1 | y = 2 where { x = y }", decls(api.Decl{Op: api.DPat, Pat: api.Pat{Op: api.PWild}, Rhs: rhs, Where: where})},
		{"x = y where { }", decls(value("x", y))},
		{"f, (+), (-) :: a", decls(sig("f + -", "a"))},
		{"f :: (C a) => a -> b", decls(sig("f", "a -> b", pred("C", "a")))},
		{"infix 4 ==, `f`, `C`, :", decls(fix(api.AssocNone, 4, "== f C :"))},
		{"infixl + ; infixr 0 -", decls(fix(api.AssocLeft, 9, "+"), fix(api.AssocRight, 0, "-"))},
	})
}

// P7.1: clauses with one name are one function if they follow each other and have patterns.
func TestMerging(t *testing.T) {
	e, x := ei(1), pv("x")
	one, two := clause(e, pi(0)), clause(e, x)
	nested := api.Clause{Pats: []api.Pat{x}, Rhs: is(e), Where: []api.Decl{fun("g", one, two)}}
	checkDeclCases(t, []declCase{
		{"f 0 = 1 ; f x = 1", decls(fun("f", one, two))},
		{"f 0 = 1 ; ; f x = 1 ; f 0 = 1", decls(fun("f", one, two, one))},
		{"f 0 = 1 ; g = 1 ; f x = 1", decls(fun("f", one), value("g", e), fun("f", two))},
		{"f 0 = 1 ; f :: a ; f x = 1", decls(fun("f", one), sig("f", "a"), fun("f", two))},
		{"f 0 = 1 ; g x = 1", decls(fun("f", one), fun("g", two))},
		{"f = 1 ; f = 1", decls(value("f", e), value("f", e))},
		{"f = 1 ; f x = 1 ; f = 1", decls(value("f", e), fun("f", two), value("f", e))},
		{"0 + x = 1 ; (+) x x = 1", decls(fun("+", clause(e, pi(0), x), clause(e, x, x)))},
		{"f x = 1 where { g 0 = 1 ; g x = 1 } ; f x = 1", decls(fun("f", nested, two))},
		{"class C a where { f 0 = 1 ; f x = 1 } ; instance C a where { f 0 = 1 ; f x = 1 }", decls(
			api.Decl{Op: api.DClass, Name: "C", Names: []string{"a"}, Decls: decls(fun("f", one, two))},
			api.Decl{Op: api.DInst, Class: "C", Type: ty("a"), Decls: decls(fun("f", one, two))})},
	})
}

// P7.1: data types, classes and instances.
func TestTopDecls(t *testing.T) {
	data := func(name, params string, cons ...api.ConDecl) api.Decl {
		return api.Decl{Op: api.DData, Name: name, Names: strings.Fields(params), Cons: cons}
	}
	derived := data("T", "", con("A"))
	derived.Derive = []string{"Eq", "M.Ord", ":<"}
	record := con("A", "a -> b", "a -> b", "Int")
	record.Labels = []string{"x", "+", "y"}
	preds := []api.Pred{pred("M.C", "a"), pred("D", "a")}
	checkDeclCases(t, []declCase{
		{"data T", decls(data("T", ""))},
		{"data (:+) a b = A", decls(data(":+", "a b", con("A")))},
		{"data T = A | B a (M.T b) [c] | (:+) ()", decls(data("T", "", con("A"), con("B", "a", "M.T b", "[c]"), con(":+", "()")))},
		{"data T = a :+ B c | M.A `C` [b] | A b :- c", decls(data("T", "", con(":+", "a", "B c"), con("C", "M.A", "[b]"), con(":-", "A b", "c")))},
		{"data T = A { x, (+) :: a -> b, y :: Int } | B { }", decls(data("T", "", record, con("B")))},
		{"data T = A deriving (Eq, M.Ord, (:<))", decls(derived)},
		{"data T deriving ()", decls(data("T", ""))},
		{"class C a", decls(api.Decl{Op: api.DClass, Name: "C", Names: []string{"a"}})},
		{"class (M.C a, D a) => (:<) a where { f :: a }", decls(api.Decl{Op: api.DClass, Name: ":<", Names: []string{"a"}, Preds: preds, Decls: decls(sig("f", "a"))})},
		{"class M.C a => C a", decls(api.Decl{Op: api.DClass, Name: "C", Names: []string{"a"}, Preds: preds[:1]})},
		{"instance M.C T where { f = 1 }", decls(api.Decl{Op: api.DInst, Class: "M.C", Type: ty("T"), Decls: decls(value("f", ei(1)))})},
		{"instance (M.C a, D a) => (:<) (T a b)", decls(api.Decl{Op: api.DInst, Class: ":<", Type: ty("T a b"), Preds: preds})},
		{"instance () => C (a -> b)", decls(api.Decl{Op: api.DInst, Class: "C", Type: ty("a -> b")})},
	})
}

// P7.1: types.
func TestTypes(t *testing.T) {
	for _, c := range []struct{ src, want string }{
		{"a", "a"}, {"(a)", "a"}, {"M.T a [b] ()", "M.T a [b] ()"}, {"(:+) a", "(:+) a"}, {"(M.:+)", "(M.:+)"},
		{"a -> b -> c", "a -> (b -> c)"}, {"(a -> b) -> c", "(a -> b) -> c"}, {"(->) a", "(->) a"}, {"[]", "[]"}, {"[] a", "[a]"},
		{"(a, b -> c)", "(,) a (b -> c)"}, {"(,) a b", "(a, b)"}, {"( , , )", "(,,)"}, {"(a, b, c) d", "(,,) a b c d"}, {"f (g a) b", "f (g a) b"},
	} {
		checkDeclCases(t, []declCase{{"x :: " + c.src, decls(sig("x", c.want))}})
	}
}

// P7.1, P7.4: faults in declarations.
func TestDeclFaults(t *testing.T) {
	checkFaults(t, Decls, func(d []api.Decl) bool { return d == nil }, []faultCase{
		{"f", api.Fault{Code: api.ErrSyntax, Name: "}"}},
		{"module M where { }", at("module", 1, 1)},
		{"{ f = 1 } g", at("g", 1, 11)},
		{"{ f = 1", api.Fault{Code: api.ErrEnd}},
		{"import M", at("import", 1, 1)},
		{"f 1", api.Fault{Code: api.ErrSyntax, Name: "}"}},
		{"f = 1 = 2", at("=", 1, 7)},
		{"f | x -> 1", at("->", 1, 7)},
		{"f - x y = 1", at("y", 1, 7)},
		{"M.f = 1", at("M.f", 1, 1)},
		{"x M.+ y = 1", at("M.+", 1, 3)},
		{"x `M.f` y = 1", at("M.f", 1, 4)},
		{"x + y + z = 1", at("+", 1, 7)},
		{"(f x) = 1", at("=", 1, 7)},
		{"(f x, y) = 1", at(",", 1, 5)},
		{"(x + y) = 1", at("=", 1, 9)},
		{"(x + y) : z = 1", at(":", 1, 9)},
		{"(C x) y = 1", at("y", 1, 7)},
		{"(x : y) z = 1", at("z", 1, 9)},
		{"((x)) y = 1", at("y", 1, 7)},
		{"(x, y) z = 1", at("z", 1, 8)},
		{"(+ x) = 1", at("x", 1, 4)},
		{"(- x) = 1", at("x", 1, 4)},
		{"x@y z = 1", at("z", 1, 5)},
		{"C x y z + = 1", at("=", 1, 11)},
		{"(f), g :: a", at(",", 1, 4)},
		{"f, g = 1", at("=", 1, 6)},
		{"f, 1", at("1", 1, 4)},
		{"x `C` y :: a", at("::", 1, 9)},
		{"infixl 1", api.Fault{Code: api.ErrSyntax, Name: "}"}},
		{"infixl M.+", at("M.+", 1, 8)},
		{"infixl +, x", at("x", 1, 11)},
		{"infix `M.f`", at("M.f", 1, 8)},
		{"data M.T", at("M.T", 1, 6)},
		{"data T = M.A", api.Fault{Code: api.ErrSyntax, Name: "}"}},
		{"data T = M.A | B", at("|", 1, 14)},
		{"data T = a", api.Fault{Code: api.ErrSyntax, Name: "}"}},
		{"data T forall", at("forall", 1, 8)},
		{"data T (a)", at("(", 1, 8)},
		{"data T = A M.x", at("M.x", 1, 12)},
		{"data T = a -> b", at("->", 1, 12)},
		{"data T = a M.:+ b", at("M.:+", 1, 12)},
		{"data T = A a { x :: T }", at("{", 1, 14)},
		{"data T = A { x }", at("}", 1, 16)},
		{"data T = A deriving Eq", at("Eq", 1, 21)},
		{"data T deriving (Eq,)", at(")", 1, 21)},
		{"class C (f a)", at("(", 1, 9)},
		{"class C a => D", api.Fault{Code: api.ErrSyntax, Name: "}"}},
		{"class C a b", at("b", 1, 11)},
		{"class M.C a", api.Fault{Code: api.ErrSyntax, Name: "}"}},
		{"class C a where { data T }", at("data", 1, 19)},
		{"instance C T a", at("a", 1, 14)},
		{"instance C a => D b => E c", at("=>", 1, 21)},
		{"instance a", at("a", 1, 10)},
		{"f = let infix + in", api.Fault{Code: api.ErrSyntax, Name: "}"}},
	})
}

// P7.1: functions whose clauses have different numbers of patterns.
func TestArity(t *testing.T) {
	odd := func(name string) api.Fault { return api.Fault{Code: api.ErrArity, Name: name} }
	empty := func(d []api.Decl) bool { return d == nil }
	checkFaults(t, Decls, empty, []faultCase{
		{"f 0 = 1 ; f x y = 2", odd("f")},
		{"0 + x = 1 ; (+) x = 2", odd("+")},
		{"g x = 1 ; f x = 1 ; f x y = 2 ; h x = 1 ; h x y = 1", odd("f")},
		{"f x = 1 where { g x = 1 ; g x y = 1 } ; f x y = 1", odd("f")},
		{"f x = 1 where { g x = 1 ; g x y = 1 } ; h x = 1 ; h x y = 1", odd("g")},
		{"f = let { h = let { i x = 1 ; i x y = 1 } in 1 ; g x = 1 ; g x y = 1 } in 1", odd("i")},
		{"f x = 1 ; f x = let { g x = 1 ; g x y = 1 } in 1 ; f x y = 1", odd("f")},
		{"class C a where { f 1 = 1 ; f 1 1 = 1 }", odd("f")},
		{"f x = 1 ; f x y = 2 ; g =", api.Fault{Code: api.ErrSyntax, Name: "}"}},
		{"f x = 1 ; f x y = 2 ; infix 12 +", odd("f")},
	})
	if _, fault := Expr("do { let { f x = 1 ; f = 1 ; f x y = 1 } ; x }"); fault != (api.Fault{}) {
		t.Errorf("functions that are apart: %v", fault)
	}
}

// P7.1: declarations that are derivable, and not well formed or too large.
func TestDeclChecks(t *testing.T) {
	empty := func(d []api.Decl) bool { return d == nil }
	arg, long, deep := api.Fault{Code: api.ErrArg}, api.Fault{Code: api.ErrLong}, api.Fault{Code: api.ErrDepth}
	checkFaults(t, Decls, empty, []faultCase{
		{"infix 10 +", arg},
		{"f = let { infix + } in 1", arg},
		{"f = do { }", arg},
		{"f = do { x <- y }", arg},
		{"f = case x of { }", arg},
		{"f = x { }", arg},
		{"class C a where { C x = 1 }", arg},
		{"instance C a where { f :: a }", arg},
		{"f :: (a, a, a, a, a, a, a, a)", arg},
		{"f = " + nested("(", 97, ")"), deep},
		{"f = [" + repeated("x,", 200) + "x]", long},
		{repeated("x = x x x x x x x x x x x x x x ;", 700), long},
	})
	for _, src := range []string{"f = " + nested("(", 96, ")"), "f = [" + repeated("x,", 199) + "x]", repeated("x = x ;", 201)} {
		if _, fault := Decls(src); fault != (api.Fault{}) {
			t.Errorf("%.20q: %v", src, fault)
		}
	}
}
