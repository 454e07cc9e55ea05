package scope

import (
	"strings"
	"testing"

	"lazyc/api"
)

// P11.2: what an import brings into scope.
func TestImports(t *testing.T) {
	imports := interfaces(t,
		"module A where { data T = B { l :: Int } | C { l, k :: Int } ; data U = D | U ; f = 1 ; (+) = 2 ; class K a where { m, n :: a } }",
		"module B (T (B, k), f, K, m, seq, Int, C (..)) where { import A (T (..), K (..), m) ; f = 3 ; class C a where { c :: a } }")
	use := func(imports, body string) string { return "module M where { " + imports + " ; x = " + body + " }" }
	var cases []moduleCase
	for _, c := range []struct{ imports, body, want string }{
		{"import A", "(f, A.f, B, A.D, l, (A.+), m)", "( A.f , A.f , A.B , A.D , A.l , ( A.+ ) , A.m )"},
		{"import B", "(B, k, f, B.f)", "( A.B , A.k , B.f , B.f )"},
		{"import B", "(m, B.m, c, B.seq, seq)", "( A.m , A.m , B.c , seq , seq )"},
		{"import B", "A.m", "ErrScope A.m"},
		{"import B", "n", "ErrScope n"},
		{"import B", "C", "ErrScope C"},
		{"import B", "1 :: (Int, B.Int, T, B.T)", "1 :: (Int, Int, A.T, A.T)"},
		{"import B", "1 :: B.Bool", "ErrScope B.Bool"},
		{"import qualified A", "A.f", "A.f"},
		{"import qualified A", "f", "ErrScope f"},
		{"import qualified A as X", "(X.f, X.B, (X.+))", "( A.f , A.B , ( A.+ ) )"},
		{"import qualified A as X", "A.f", "ErrScope A.f"},
		{"import A as X", "(X.f, f)", "( A.f , A.f )"},
		{"import A as X", "A.f", "ErrScope A.f"},
		{"import A as X ; import B as X", "(X.m, X.k)", "( A.m , A.k )"},
		{"import A as X ; import B as X", "X.f", "ErrAmbiguous X.f"},
		{"import A as M ; import A (f) ; f = 1", "A.f", "M.f = 1 ; M.x = A.f"},
		{"import A as M ; f = 1", "M.f", "ErrAmbiguous M.f"},
		{"import qualified A ; import A as M ; x' = f", "A.f", "M.x' = A.f ; M.x = A.f"},
		{"import A ; f = 1", "f", "ErrAmbiguous f"},
		{"import A ; f = 1", "(M.f, A.f)", "M.f = 1 ; M.x = ( M.f , A.f )"},
		{"import A ; import B", "f", "ErrAmbiguous f"},
		{"import A ; import B", "\\f -> (f, A.f, B.f)", "\\ f$1 -> ( f$1 , A.f , B.f )"},
		{"import A ; import B ; import A", "(B, m, k, seq)", "( A.B , A.m , A.k , seq )"},
		{"import A ; import B", "1 :: (T, Int)", "1 :: (A.T, Int)"},
		{"import X", "1", "ErrModule X"},
		{"import A (g) ; import X", "1", "ErrExport g"},
		{"import X ; import A (g)", "1", "ErrModule X"},
		{"import A (f, l, m, (+))", "(f, A.l, m, (+))", "( A.f , A.l , A.m , ( A.+ ) )"},
		{"import A (f)", "(+)", "ErrScope +"},
		{"import A (T)", "1 :: T", "1 :: A.T"},
		{"import A (T)", "B", "ErrScope B"},
		{"import A (T (B, k))", "(B, k)", "( A.B , A.k )"},
		{"import A (T (B, k))", "l", "ErrScope l"},
		{"import A (T (..), U (D))", "(B, C, l, k, D)", "( A.B , A.C , A.l , A.k , A.D )"},
		{"import A (T (..), U (D))", "U", "ErrScope U"},
		{"import A (K (n))", "n", "A.n"},
		{"import A (K (n))", "m", "ErrScope m"},
		{"import A (K (..))", "(m, n)", "( A.m , A.n )"},
		{"import A (T (..)) ; import qualified A", "(B, A.f)", "( A.B , A.f )"},
		{"import A ()", "1 :: T", "ErrScope T"},
		{"import B (T (..))", "(B, k)", "( A.B , A.k )"},
		{"import B (T (..))", "m", "ErrScope m"},
		{"import B (T (C))", "1", "ErrExport C"},
		{"import B (K (..))", "1", "1"},
		{"import B (K (m))", "1", "ErrExport m"},
		{"import B (Int, seq)", "B.seq :: B.Int", "seq :: Int"},
		{"import A (D)", "1", "ErrExport D"},
		{"import A (U)", "U", "ErrScope U"},
		{"import A (f, T (D), g)", "1", "ErrExport D"},
		{"import A (T (B, f))", "1", "ErrExport f"},
		{"import A (X (Y))", "1", "ErrExport X"},
		{"import A (A.f)", "1", "ErrExport A.f"},
		{"import A (A.T)", "1", "ErrExport A.T"},
		{"import A hiding (f)", "f", "ErrScope f"},
		{"import A hiding (f)", "A.f", "ErrScope A.f"},
		{"import A hiding (f)", "(l, B)", "( A.l , A.B )"},
		{"import A hiding (l)", "l", "ErrScope l"},
		{"import A hiding (T)", "1 :: T", "ErrScope T"},
		{"import A hiding (T)", "(B, l)", "( A.B , A.l )"},
		{"import A hiding (T (..))", "(D, m)", "( A.D , A.m )"},
		{"import A hiding (T (..))", "B", "ErrScope B"},
		{"import A hiding (T (..))", "k", "ErrScope k"},
		{"import A hiding (T (..))", "1 :: T", "ErrScope T"},
		{"import A hiding (T (k, B, f, g))", "(C, l, f)", "( A.C , A.l , A.f )"},
		{"import A hiding (T (k, B))", "k", "ErrScope k"},
		{"import A hiding (T (k, B))", "B", "ErrScope B"},
		{"import A hiding (U)", "U", "ErrScope U"},
		{"import A hiding (U)", "D", "A.D"},
		{"import A hiding (C)", "C", "ErrScope C"},
		{"import A hiding (C)", "1 :: T", "1 :: A.T"},
		{"import A hiding (K (m))", "m", "ErrScope m"},
		{"import A hiding (K (m))", "n", "A.n"},
		{"import A hiding (g, X (..), Y (f), A.f)", "f", "A.f"},
		{"import A hiding (f) ; import B", "f", "B.f"},
		{"import A hiding (f) ; import A (f)", "f", "A.f"},
		{"import B hiding (T (..))", "k", "ErrScope k"},
		{"import qualified A as X hiding (f)", "X.l", "A.l"},
		{"import qualified A as X hiding (f)", "X.f", "ErrScope X.f"},
	} {
		want := c.want
		if !strings.HasPrefix(want, "Err") && !strings.HasPrefix(want, "M.") {
			want = "M.x = " + want
		}
		cases = append(cases, moduleCase{use(c.imports, c.body), want})
	}
	checkModules(t, imports, cases)
	checkModules(t, imports, []moduleCase{
		{"module M where { import A hiding (x) ; y = x }", "ErrScope x"},
		{"module M where { import A (x) ; y = x }", "ErrExport x"},
	})
}

// P11.1: interfaces that describe a built-in type, or export several values with one simple name.
func TestInterfaces(t *testing.T) {
	imports := []api.Iface{
		{Module: "A", Exports: []api.Export{{Name: "B.x"}, {Name: "C.x"}, {Name: "Bool", Subs: []string{"True"}}, {Name: "()"}},
			Env: api.Env{Datas: []api.Data{{Name: "Bool", Cons: []api.Con{{Name: "True"}}}}}},
		{Module: "D", Exports: []api.Export{{Name: "E.T", Subs: []string{"E.A"}}}},
		{Module: "E", Env: api.Env{Datas: []api.Data{{Name: "E.T", Cons: []api.Con{{Name: "E.B"}, {Name: "E.A"}}}, {Name: "E.T"}}}},
	}
	checkExports(t, imports, []moduleCase{
		{"module M (Bool (..)) where { import A }", "Bool"},
		{"module M (Bool (True)) where { import A }", "ErrExport True"},
		{"module M (x) where { import A (x) }", "ErrAmbiguous x"},
		{"module M (T (..)) where { import D }", "E.T(E.A)"},
		{"module M (T (B)) where { import D }", "ErrExport B"},
	})
	unit := api.Module{Name: "M", Exports: []api.Export{{Name: "()", With: true}, {Name: "()", Subs: []string{"x"}}}, Imports: []api.Import{{Module: "A", As: "A", Names: []api.Export{{Name: "()"}}}}}
	if got := exportation(unit, imports); got != "()" {
		t.Errorf("the unit value: %s", got)
	}
	unit.Imports[0].Module = "D"
	if got := exportation(unit, imports); got != "ErrExport ()" {
		t.Errorf("the unit value: %s", got)
	}
}

// P11.3: expressions see all that the interfaces export.
func TestExpr(t *testing.T) {
	imports := interfaces(t,
		"module A (x, T (..)) where { x = 1 ; y = 2 ; data T = B { l :: Int } | C }",
		"module B where { x = 2 ; z = 3 ; (>>=) = 4 }")
	for _, c := range []moduleCase{
		{"x", "ErrAmbiguous x"},
		{"(A.x, B.x, z, B.z)", "( A.x , B.x , B.z , B.z )"},
		{"\\x -> (x, A.x)", "\\ x$1 -> ( x$1 , A.x )"},
		{"y", "ErrScope y"},
		{"A.z", "ErrScope A.z"},
		{"Main.z", "ErrScope Main.z"},
		{"B { l = seq }", "A.B { A.l = seq }"},
		{"\\C { l = x } -> x", "ErrField l"},
		{"let { f x = g x ; g y = f y } in f g", "let { f$1 x$1 = g$1 x$1 ; g$1 y$1 = f$1 y$1 } in f$1 g$1"},
		{"do { x <- z ; x } :: A.T", "do { x$1 <- B.z ; x$1 } :: A.T"},
		{"\\x x -> y", "ErrTwice x"},
		{"let { f :: Int ; g = 1 } in x", "ErrScope f"},
		{"1", "1"},
	} {
		if got := exprResolution(parsedExpr(t, c.source), imports); got != c.want {
			t.Errorf("%s: %s, want %s", c.source, got, c.want)
		}
	}
	if got := exprResolution(parsedExpr(t, "x"), imports[:1]); got != "A.x" {
		t.Errorf("with one interface x is %s", got)
	}
	if got := exprResolution(parsedExpr(t, "\\x -> x"), []api.Iface{{}, {Module: "m", Exports: []api.Export{{Name: ""}, {Name: "x$1"}, {Name: "M.y", Subs: []string{""}}}}}); got != "\\ x$1 -> x$1" {
		t.Errorf("with strange interfaces: %s", got)
	}
}

// P11.4: binders with the same name.
func TestUnique(t *testing.T) {
	for _, c := range []struct {
		source string
		want   bool
	}{
		{"f x = x ; g y = y", true},
		{"f x = x ; g x = x", false},
		{"f x = x ; x = 1", false},
		{"f f = 1", false},
		{"f = 1 ; f = 2", false},
		{"f = 1 ; (f, g) = 2", false},
		{"(f, f) = 2", false},
		{"f = 1 ; x = g where { f = 1 }", false},
		{"f (x, [y, ~z@w]) 1 = 2", true},
		{"f (x, [y, ~z@y]) 1 = 2", false},
		{"f (x, [y, ~y@z]) 1 = 2", false},
		{"f = \\x -> \\x -> 1", false},
		{"f = \\x x -> 1", false},
		{"f = let { x = 1 } in let { x = 2 } in 3", false},
		{"f = let { x = 1 } in let { (y, x) = 2 } in 3", false},
		{"f = let { x x = 1 } in 1", false},
		{"f = case 1 of { x -> 1 ; x -> 2 }", false},
		{"f = case 1 of { x -> 1 ; y -> 2 }", true},
		{"f = case 1 of { x -> y where { z = 1 } ; y | 1 -> 2 where { z = 2 } }", false},
		{"f = case 1 of { x | \\y -> 1 -> 1 ; y -> 2 }", false},
		{"f = do { x <- 1 ; let { x = 2 } ; 1 }", false},
		{"f = do { x <- \\x -> 1 ; 1 }", false},
		{"f = [\\x -> 1 | x <- 1]", false},
		{"f = [\\y -> 1 | x <- 1, \\z -> 2]", true},
		{"f = A { l = \\x -> 1, m = \\x -> 1 }", false},
		{"f = (x { l = \\y -> 1, m = \\x -> 1 }) x", true},
		{"f | \\x -> 1 = \\x -> 1 | y = 2", false},
		{"(f, g) | \\x -> 1 = 1 where { x = 1 }", false},
		{"f, g :: x ; f x = 1 ; data T x = A { x, y :: x } ; class C x where { y :: x } ; infixl 6 `f`", true},
		{"class C a where { m :: a ; m x = x ; n x = x }", false},
		{"class C a where { m :: a ; m x = x ; n y = y } ; instance C Int where { m x = x }", false},
		{"class C a where { m, n :: a ; m x = x ; n y = y } ; instance C Int where { m z = z } ; m = 1", true},
		{"instance C Int where { m = let { m = 1 } in 2 ; n = 1 } ; n = 2", true},
		{"instance C Int where { m = let { m = 1 } in 2 } ; m = 2", false},
	} {
		if got := Unique(parsed(t, c.source)); got != c.want {
			t.Errorf("%s: %t", c.source, got)
		}
	}
	if !Unique(api.Module{}) {
		t.Error("the empty module has binders")
	}
}
