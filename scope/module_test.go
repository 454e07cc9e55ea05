package scope

import (
	"strings"
	"testing"

	"lazyc/api"
	"lazyc/syntax"
)

// P11.2: names at top level, built-in names and generated names.
func TestNames(t *testing.T) {
	checkModules(t, nil, []moduleCase{
		{"module M where { f x = let { y = x } in y }", "M.f x$1 = let { y$1 = x$1 } in y$1"},
		{"module M where { f x = f (M.f x) ; g = f }", "M.f x$1 = M.f ( M.f x$1 ) ; M.g = M.f"},
		{"module M where { x = 1 ; f x = x ; g = x ; h = M.x }", "M.x = 1 ; M.f x$1 = x$1 ; M.g = M.x ; M.h = M.x"},
		{"module M where { f x = M.x ; x = f }", "M.f x$1 = M.x ; M.x = M.f"},
		{"module M where { f = seq True (:) [] () (1, 2) }", "M.f = seq True ( : ) [ ] ( ) ( 1 , 2 )"},
		{"module M where { f seq = seq intAdd ; g = seq }", "M.f seq$1 = seq$1 intAdd ; M.g = seq"},
		{"module M where { (+) = intAdd ; f x = x + 1 ; g (+) = 1 + 2 }", "( M.+ ) = intAdd ; M.f x$1 = ( M.+ ) x$1 1 ; M.g ( +$1 ) = ( +$1 ) 1 2"},
		{"module M where { f (-) = - 1 }", "M.f ( -$1 ) = - 1"},
		{"module M where { (x, y : z) = f ; f = (x, y, z) }", "( M.x , ( : ) M.y M.z ) = M.f ; M.f = ( M.x , M.y , M.z )"},
		{"f x = x", "Main.f x$1 = x$1"},
		{"module M where { data T = T T | U ; f (T x) = U ; f U = T U }", "data M.T = M.T M.T | M.U ; M.f ( M.T x$1 ) = M.U ; M.f M.U = M.T M.U"},
		{"module M where { f = x }", "ErrScope x"},
		{"module M where { f = N.x }", "ErrScope N.x"},
		{"module M where { f = M.x }", "ErrScope M.x"},
		{"module M where { f = X }", "ErrScope X"},
		{"module M where { data X = Y ; f = X }", "ErrScope X"},
		{"module M where { f = Int }", "ErrScope Int"},
		{"module M where { f X = 1 }", "ErrScope X"},
		{"module M where { f = \\x -> y }", "ErrScope y"},
		{"module M where { f = g x ; g = h }", "ErrScope x"},
		{"module M where { f = x `g` y }", "ErrScope g"},
	})
}

// P11.2: the variables of local scopes, in the order of their occurrence, and the order of the parts.
func TestLocals(t *testing.T) {
	checkModules(t, nil, []moduleCase{
		{"module M where { f = \\x y -> \\x -> x y }", "M.f = \\ x$1 y$1 -> \\ x$2 -> x$2 y$1"},
		{"module M where { f x = (\\x -> x) x ; g x = x }", "M.f x$1 = ( \\ x$2 -> x$2 ) x$1 ; M.g x$3 = x$3"},
		{"module M where { f x = let { y = z ; z = y x ; (w, v) = w } in v z }", "M.f x$1 = let { y$1 = z$1 ; z$1 = y$1 x$1 ; ( w$1 , v$1 ) = w$1 } in v$1 z$1"},
		{"module M where { f x = let { x = x } in x }", "M.f x$1 = let { x$2 = x$2 } in x$2"},
		{"module M where { f x@(y : ~z) [w] = (x, y, z, w) }", "M.f x$1 @ ( ( : ) y$1 ~ z$1 ) [ w$1 ] = ( x$1 , y$1 , z$1 , w$1 )"},
		{"module M where { f x = case x of { (x : y) -> x y ; x -> x } }", "M.f x$1 = case x$1 of { ( : ) x$2 y$1 -> x$2 y$1 ; x$3 -> x$3 }"},
		{"module M where { f x | x = y | z = x where { y = z ; z = x } }", "M.f x$1 | x$1 = y$1 | z$1 = x$1 where { y$1 = z$1 ; z$1 = x$1 }"},
		{"module M where { f x = \\y -> y where { y = \\x -> x } }", "M.f x$1 = \\ y$2 -> y$2 where { y$1 = \\ x$2 -> x$2 }"},
		{"module M where { f x = case x of { y | y -> z where { z = \\y -> y } } }", "M.f x$1 = case x$1 of { y$1 | y$1 -> z$1 where { z$1 = \\ y$2 -> y$2 } }"},
		{"module M where { f x = let { (y, x) = x where { x = y } } in x }", "M.f x$1 = let { ( y$1 , x$2 ) = x$3 where { x$3 = y$1 } } in x$2"},
		{"module M where { (a, b) = c where { c = a } }", "( M.a , M.b ) = c$1 where { c$1 = M.a }"},
		{"module M where { f x = [x | x <- x, let { y = x ; g y = y }, x <- g y, x] }", "M.f x$1 = [ x$3 | x$2 <- x$1 , let { y$1 = x$2 ; g$1 y$2 = y$2 } , x$3 <- g$1 y$1 , x$3 ]"},
		{"module M where { f x = [x .. x] }", "M.f x$1 = [ x$1 .. x$1 ]"},
		{"module M where { f x = if x then \\x -> x else \\x -> x }", "M.f x$1 = if x$1 then \\ x$2 -> x$2 else \\ x$3 -> x$3"},
		{"module M where { f x y = (x `y`) (`y` x) }", "M.f x$1 y$1 = ( x$1 ` y$1 ` ) ( ` y$1 ` x$1 )"},
		{"module M where { f x = let { y, z :: a ; y = z ; z = x } in y :: Int }", "M.f x$1 = let { y$1 , z$1 :: a ; y$1 = z$1 ; z$1 = x$1 } in y$1 :: Int"},
		{"module M where { f 0 'a' \"b\" _ (- 1) = 0 }", "M.f 0 'a' \"b\" _ ( - 1 ) = 0"},
	})
}

// P11.2: a variable that occurs twice in a scope, and which fault comes first.
func TestLocalFaults(t *testing.T) {
	checkModules(t, nil, []moduleCase{
		{"module M where { f x x = y }", "ErrTwice x"},
		{"module M where { f x y x y = y }", "ErrTwice x"},
		{"module M where { f x y y x = y }", "ErrTwice y"},
		{"module M where { f (x, y@x) = z }", "ErrTwice x"},
		{"module M where { f = \\x [x] -> y }", "ErrTwice x"},
		{"module M where { f = let { x = 1 ; (y, x) = 2 } in z }", "ErrTwice x"},
		{"module M where { f = case y of { (x, x) -> x } }", "ErrScope y"},
		{"module M where { f = case 1 of { (x, x) -> y } }", "ErrTwice x"},
		{"module M where { f = z where { x = 1 ; x = 2 } }", "ErrTwice x"},
		{"module M where { f = [y | (x, x) <- z] }", "ErrScope z"},
		{"module M where { f = [y | (x, x) <- []] }", "ErrTwice x"},
		{"module M where { f = [y | x <- [], z] }", "ErrScope z"},
		{"module M where { f = [y | let { x = 1 ; x = 2 }] }", "ErrTwice x"},
		{"module M where { f X = z }", "ErrScope X"},
		{"module M where { f = \\X -> z }", "ErrScope X"},
		{"module M where { f = case 1 of { X -> z } }", "ErrScope X"},
		{"module M where { f x | a = b | c = d where { y = e } }", "ErrScope a"},
		{"module M where { f x | x = b | c = d where { y = e } }", "ErrScope b"},
		{"module M where { f x | x = x | c = d where { y = e } }", "ErrScope c"},
		{"module M where { f x = x where { y = e } }", "ErrScope e"},
		{"module M where { f = let { x = a } in b }", "ErrScope a"},
		{"module M where { f = a b }", "ErrScope a"},
		{"module M where { f = if 1 then b else c }", "ErrScope b"},
		{"module M where { f = (a `b`) }", "ErrScope b"},
		{"module M where { f = (`b` a) }", "ErrScope b"},
		{"module M where { f = (a `seq`) }", "ErrScope a"},
		{"module M where { f = (a :: T) }", "ErrScope a"},
		{"module M where { f = (1 :: C a => T) }", "ErrScope C"},
		{"module M where { f = (1 :: T -> U) }", "ErrScope T"},
		{"module M where { f = (1 :: Int -> [(U, V)]) }", "ErrScope U"},
		{"module M where { f = let { x y = y } in y }", "ErrScope y"},
		{"module M where { f = g x where { g x = x } }", "ErrScope x"},
		{"module M where { f = [x | x <- [1]] x }", "ErrScope x"},
		{"module M where { f x = 1 ; g = x }", "ErrScope x"},
	})
}

// P11.2: signatures belong to a variable of their block, each to one.
func TestSignatures(t *testing.T) {
	checkModules(t, nil, []moduleCase{
		{"module M where { f, g :: M.T ; f = 1 ; (g, h) = f ; data T = A }", "M.f , M.g :: M.T ; M.f = 1 ; ( M.g , M.h ) = M.f ; data M.T = M.A"},
		{"module M where { f :: (C a, D b) => a -> [(b, Int)] ; f = f ; class C a ; class D a }",
			"M.f :: ( M.C a , M.D b ) => a -> [(b, Int)] ; M.f = M.f ; class M.C a ; class M.D a"},
		{"module M where { f = x ; g :: Int }", "ErrScope g"},
		{"module M where { f :: T ; f = 1 ; g :: Int }", "ErrScope g"},
		{"module M where { f = x ; f :: Int ; f :: Int }", "ErrTwice f"},
		{"module M where { f = x ; f, f :: Int ; g :: Int }", "ErrTwice f"},
		{"module M where { g, f, f :: Int ; f = x }", "ErrScope g"},
		{"module M where { data T = A { l :: Int } ; l :: T -> Int }", "ErrScope l"},
		{"module M where { class C a where { m :: a } ; m :: a }", "ErrScope m"},
		{"module M where { f = let { x :: T ; y = z } in y }", "ErrScope x"},
		{"module M where { f = let { x = 1 ; y = z ; x :: T ; x :: Int } in y }", "ErrTwice x"},
		{"module M where { f = let { y :: Int ; y = z } in let { y :: Int } in 1 }", "ErrScope z"},
		{"module M where { f y = let { y :: Int } in 1 }", "ErrScope y"},
		{"module M where { f = 1 where { y :: Int } }", "ErrScope y"},
		{"module M where { f = do { let { y :: Int } ; 1 } }", "ErrScope y"},
		{"module M where { f :: D a => T ; f = x ; class C a }", "ErrScope D"},
		{"module M where { f :: C a => T ; f = x ; class C a }", "ErrScope T"},
	})
}

// P11.2: data declarations.
func TestData(t *testing.T) {
	checkModules(t, nil, []moduleCase{
		{"module M where { data T f a = A (f a) [T f a] | a :+ (M.T f Int) | B { x, y :: a -> (a, U), z :: IO Bool } ; data U ; (+) = 1 }",
			"data M.T f a = M.A ( f a ) [M.T f a] | ( M.:+ ) a ( M.T f Int ) | M.B { M.x :: a -> (a, M.U) , M.y :: a -> (a, M.U) , M.z :: IO Bool } ; data M.U ; ( M.+ ) = 1"},
		{"module M where { data T = A deriving (C, M.C, Int) ; class C a }", "data M.T = M.A deriving ( M.C , M.C , Int ) ; class M.C a"},
		{"module M where { data T a b a = A X }", "ErrTwice a"},
		{"module M where { data T a = A b X }", "ErrScope b"},
		{"module M where { data T a = A (X b) c }", "ErrScope X"},
		{"module M where { data T a = A (T a) (a -> b -> c) }", "ErrScope b"},
		{"module M where { data T a = A a | B { l :: [Int], m :: X } deriving (D) }", "ErrScope X"},
		{"module M where { data T a = A a deriving (C, D) ; class C a }", "ErrScope D"},
		{"module M where { data T = A ; f :: A ; f = 1 }", "ErrScope A"},
		{"module M where { data T = A seq }", "ErrScope seq"},
		{"module M where { data T = A True }", "ErrScope True"},
		{"module M where { f = A { l = 1 } ; data T = A { l :: X } }", "ErrScope X"},
	})
}

// P11.2: classes and instances.
func TestClasses(t *testing.T) {
	imports := interfaces(t, "module A (C) where { class C a where { m, (+) :: a ; m = m } ; data T = T }")
	checkModules(t, imports, []moduleCase{
		{"module M where { class (D a, Int a) => C a where { m, n :: D b => a -> b ; m x = x n ; n = f } ; class D a ; f = m }",
			"class ( M.D a , Int a ) => M.C a where { M.m , M.n :: ( M.D b ) => a -> b ; M.m x$1 = x$1 M.n ; M.n = M.f } ; class M.D a ; M.f = M.m"},
		{"module M where { import A ; instance (C a, A.C b) => A.C (a -> [b]) where { m x = n where { n = x } ; (+) = 1 } }",
			"instance ( A.C a , A.C b ) => A.C ( a -> [b] ) where { A.m x$1 = n$1 where { n$1 = x$1 } ; ( A.+ ) = 1 }"},
		{"module M where { instance C T where { m = m } ; data T = T ; class C a where { m :: a } }",
			"instance M.C M.T where { M.m = M.m } ; data M.T = M.T ; class M.C a where { M.m :: a }"},
		{"module M where { import A ; m = 1 ; instance C Int where { m = m } }", "M.m = 1 ; instance A.C Int where { A.m = M.m }"},
		{"module M where { import A ; instance C Int where { m = m } }", "ErrScope m"},
		{"module M where { import A ; instance C Int where { x = y } }", "ErrScope x"},
		{"module M where { import A ; x = 1 ; instance C Int where { m = 1 ; x = y } }", "ErrScope x"},
		{"module M where { import A ; instance C Int where { m = 1 ; (+) = m ; m = y } }", "ErrScope m"},
		{"module M where { import A ; instance C Int where { m = 1 ; (+) = 2 ; m = y } }", "ErrTwice m"},
		{"module M where { class C a where { m :: a ; m = 1 ; n = 2 } ; n = 1 }", "ErrScope n"},
		{"module M where { class C a where { m :: a ; n :: a ; m = 1 ; n = m ; m = x } }", "ErrTwice m"},
		{"module M where { data T = A { l :: Int } ; instance T Int where { l = 1 } }", "ErrScope l"},
		{"module M where { instance Int Int where { seq = 1 } }", "ErrScope seq"},
		{"module M where { instance X a => Y Z where { l = 1 } }", "ErrScope X"},
		{"module M where { class X a ; instance X a => Y Z where { l = 1 } }", "ErrScope Y"},
		{"module M where { class X a ; instance X a => X Z where { l = 1 } }", "ErrScope Z"},
		{"module M where { class X a => Y a where { m :: Z } }", "ErrScope X"},
		{"module M where { class Y a where { m :: Z ; n = 1 } }", "ErrScope Z"},
	})
}

// P11.2: the names of fixity declarations.
func TestFixities(t *testing.T) {
	checkModules(t, nil, []moduleCase{
		{"module M where { infixl 6 +, `f` ; infixr 5 :+, `m` ; infix 4 `l`, `A` ; f (+) = 1 + 2 ; (x, (+)) = f ; data T = T :+ T | A { l :: T } ; class C a where { m :: a } }",
			"infixl 6 M.+ , ` M.f ` ; infixr 5 M.:+ , ` M.m ` ; infix 4 ` M.l ` , ` M.A ` ; M.f ( +$1 ) = ( +$1 ) 1 2 ; ( M.x , ( M.+ ) ) = M.f ; data M.T = ( M.:+ ) M.T M.T | M.A { M.l :: M.T } ; class M.C a where { M.m :: a }"},
	})
	imports := interfaces(t, "module A where { (+) = 1 ; (*) = 2 }", "module B where { (*) = 2 }")
	for _, c := range []struct{ names, want string }{
		{"+", "M.+"}, {"M.+", "M.+"}, {"A.+", "A.+"}, {"A.*", "A.*"}, {"*", "ErrAmbiguous *"}, {":", ":"}, {"- *", "ErrScope -"},
	} {
		m := parsed(t, "module M where { import A ; import B ; (+) = 1 }")
		m.Decls = append(m.Decls, api.Decl{Op: api.DFix, Names: strings.Fields(c.names)})
		resolved, fault := Module(m, imports)
		got := faultText(fault)
		if fault == (api.Fault{}) {
			got = strings.Join(resolved.Decls[1].Names, " ")
		}
		if got != c.want {
			t.Errorf("%s: %s, want %s", c.names, got, c.want)
		}
	}
}

// P11.2: the operators of do expressions.
func TestDo(t *testing.T) {
	imports := interfaces(t, "module A where { (>>=) = 1 ; (>>) = 2 }", "module B where { (>>) = 2 }")
	for _, c := range []struct{ source, operators, want string }{
		{"import A ; f = do { 1 }", " ", "M.f = do { 1 }"},
		{"f = do { 1 }", " ", "M.f = do { 1 }"},
		{"f = do { let { x = 1 } ; x }", " ", "M.f = do { let { x$1 = 1 } ; x$1 }"},
		{"import A ; f x = do { x <- x ; x }", "A.>>= ", "M.f x$1 = do { x$2 <- x$1 ; x$2 }"},
		{"import A ; f = do { 1 ; 2 }", " A.>>", "M.f = do { 1 ; 2 }"},
		{"import A ; f x = do { x ; y <- x ; let { x = y } ; x <- x ; x }", "A.>>= A.>>", "M.f x$1 = do { x$1 ; y$1 <- x$1 ; let { x$2 = y$1 } ; x$3 <- x$2 ; x$3 }"},
		{"import A ; f (>>) (>>=) = do { 1 ; (>>=) <- 1 ; (>>) <- 2 ; 3 }", ">>=$1 >>$1", "M.f ( >>$1 ) ( >>=$1 ) = do { 1 ; ( >>=$2 ) <- 1 ; ( >>$2 ) <- 2 ; 3 }"},
		{"(>>) = 1 ; f = do { 1 ; 2 }", " M.>>", "( M.>> ) = 1 ; M.f = do { 1 ; 2 }"},
	} {
		m := parsed(t, "module M where { "+c.source+" }")
		resolved, fault := Module(m, imports)
		if fault != (api.Fault{}) || declsText(resolved) != c.want {
			t.Errorf("%s: %v, %s", c.source, fault, declsText(resolved))
			continue
		}
		last := resolved.Decls[len(resolved.Decls)-1]
		if got := last.Clauses[0].Rhs[0].Body.Names; strings.Join(got, " ") != c.operators || len(got) != 2 {
			t.Errorf("%s: %q, want %q", c.source, got, c.operators)
		}
	}
	checkModules(t, imports, []moduleCase{
		{"module M where { f = do { x <- y ; z } }", "ErrScope >>="},
		{"module M where { f = do { x ; y <- y ; z } }", "ErrScope >>="},
		{"module M where { (>>=) = 1 ; f = do { x ; y <- y ; z } }", "ErrScope >>"},
		{"module M where { import A ; import B ; f = do { x ; z } }", "ErrAmbiguous >>"},
		{"module M where { import A ; f = do { (x, x) <- y ; z } }", "ErrScope y"},
		{"module M where { import A ; f = do { (x, x) <- 1 ; z } }", "ErrTwice x"},
		{"module M where { import A ; f = do { X <- 1 ; z } }", "ErrScope X"},
		{"module M where { import A ; f = do { x <- do { x <- 1 ; x } ; y } }", "ErrScope y"},
	})
}

// P11.2: records.
func TestRecords(t *testing.T) {
	imports := interfaces(t, "module A where { data R = R { a, b :: Int } | S { b, c :: Int } | T Int ; data Q = Q { q :: Int } ; f = 1 }", "module B where { data R = R { a :: Int } }")
	for _, c := range []moduleCase{
		{"R { a = l, b = 2 }", "A.R { A.a = l$1 , A.b = 2 }"},
		{"A.S { c = 1, a'b = g }", "A.S { A.c = 1 , A.b = M.g }"},
		{"\\a -> R { a = a }", "\\ a$1 -> A.R { A.a = a$1 }"},
		{"R { }", "A.R { }"},
		{"T { }", "A.T { }"},
		{"l { a = 1, b = 2, a'c = l }", "l$1 { A.a = 1 , A.b = 2 , A.c = l$1 }"},
		{"\\R { b = a, a = b } -> a b", "\\ A.R { A.b = a$1 , A.a = b$1 } -> a$1 b$1"},
		{"\\A.S { a'c = S { } } -> 1", "\\ A.S { A.c = A.S { } } -> 1"},
		{"X { a = x }", "ErrScope X"},
		{"R { a = x, y = 1 }", "ErrScope x"},
		{"R { y = x }", "ErrScope y"},
		{"R { l = x }", "ErrScope l"},
		{"R { g = x }", "ErrField g"},
		{"R { seq = x }", "ErrField seq"},
		{"R { c = x }", "ErrField c"},
		{"R { q = x }", "ErrField q"},
		{"T { a = x }", "ErrField a"},
		{"Failure { a = x }", "ErrField a"},
		{"R { a = 1, b = 2, a'a = x }", "ErrTwice A.a"},
		{"R { a = 1, b = x, a = 2 }", "ErrScope x"},
		{"x { y = z }", "ErrScope x"},
		{"l { y = z }", "ErrScope y"},
		{"l { l = z }", "ErrScope l"},
		{"l { f = z }", "ErrField f"},
		{"l { a = 1, f = z }", "ErrField f"},
		{"l { a = 1, c = 1, q = z }", "ErrField q"},
		{"l { q = 1, c = z }", "ErrField c"},
		{"l { a = 1, c = 1, a = z }", "ErrTwice a"},
		{"l { a = z, q = 1 }", "ErrScope z"},
		{"\\R { c = X } -> 1", "ErrField c"},
		{"\\R { a = X, c = x } -> 1", "ErrScope X"},
		{"\\R { a = x, a = X } -> 1", "ErrTwice a"},
		{"\\R { g = X } -> 1", "ErrField g"},
		{"\\R { y = X } -> 1", "ErrScope y"},
		{"\\X { y = X } -> 1", "ErrScope X"},
	} {
		m := parsed(t, "module M where { import A ; g = 2 ; h l = "+c.source+" }")
		qualifyLabels(&m.Decls[1].Clauses[0].Rhs[0].Body)
		want := c.want
		if !strings.HasPrefix(want, "Err") {
			want = "M.g = 2 ; M.h l$1 = " + want
		}
		if got := resolution(m, imports[:1]); got != want {
			t.Errorf("%s\n got %s\nwant %s", c.source, got, want)
		}
	}
	for _, c := range []moduleCase{
		{"\\x -> x { a = 1 }", "ErrAmbiguous a"},
		{"1 { b'a = 1, a'a = 2 }", "ErrField A.a"},
		{"A.R { b'a = 1 }", "ErrField B.a"},
		{"R { a'a = 1 }", "ErrAmbiguous R"},
		{"A.R { a'a = 1 }", "A.R { A.a = 1 }"},
	} {
		e := parsedExpr(t, c.source)
		qualifyLabels(&e)
		if got := exprResolution(e, imports); got != c.want {
			t.Errorf("%s\n got %s\nwant %s", c.source, got, c.want)
		}
	}
	checkModules(t, imports, []moduleCase{
		{"module M where { import A hiding (R (..)) ; import B ; f = R { a = 1 } }", "M.f = B.R { B.a = 1 }"},
		{"module M where { data T = U { x, y :: T } | V { y :: T } ; f V { y = y } = y { x = U { y = y } } }",
			"data M.T = M.U { M.x :: M.T , M.y :: M.T } | M.V { M.y :: M.T } ; M.f M.V { M.y = y$1 } = y$1 { M.x = M.U { M.y = y$1 } }"},
		{"module M where { data T = U { x, y :: T } | V { y :: T } ; f = V { x = 1 } }", "ErrField x"},
	})
}

// qualifyLabels makes of a'x and b'x the labels A.x and B.x, which the grammar does not have.
func qualifyLabels(e *api.Expr) {
	qualifiers := strings.NewReplacer("a'", "A.", "b'", "B.")
	for i := range e.Fields {
		e.Fields[i].Name = qualifiers.Replace(e.Fields[i].Name)
	}
	for _, p := range e.Pats {
		for i := range p.Names {
			p.Names[i] = qualifiers.Replace(p.Names[i])
		}
	}
}

// P11.2: the result apart from the declarations, and nodes that only the parser returns.
func TestResult(t *testing.T) {
	imports := interfaces(t, "module A where { data T = B | C ; f = 1 }")
	m := parsed(t, "module M (g, T (..), M.g) where { import A ; import qualified A as X hiding (f, T (B)) ; import A (T (..), f) ; g = f }")
	resolved, fault := Module(m, imports)
	want := m
	want.Exports = []api.Export{{Name: "M.g"}, {Name: "A.T", Subs: []string{"A.B", "A.C"}}}
	want.Decls = parsed(t, "module M where { g = 1 }").Decls
	want.Decls[0].Name = "M.g"
	want.Decls[0].Clauses[0].Rhs[0].Body = api.Expr{Op: api.EVar, Name: "A.f"}
	if fault != (api.Fault{}) || !syntax.Same(resolved, want) {
		t.Errorf("%v, %v", resolved, fault)
	}
	infix := api.Expr{Op: api.EInfix, Names: []string{"x", "X.y"}, Neg: []bool{false, true, false}, Kids: []api.Expr{{Op: api.EVar, Name: "x"}, {Op: api.EInt, N: 1}, {Op: api.ECon, Name: "True"}}}
	parens := api.Expr{Op: api.EParen, Kids: []api.Expr{infix}}
	pat := api.Pat{Op: api.PParen, Kids: []api.Pat{{Op: api.PInfix, Names: []string{":+"}, Kids: []api.Pat{{Op: api.PVar, Name: "x"}, {Op: api.PCon, Name: "False"}}}}}
	e := api.Expr{Op: api.ELam, Pats: []api.Pat{pat}, Kids: []api.Expr{parens}}
	if got, want := exprResolution(e, nil), "\\ ( x$1 :+ False ) -> ( x$1 ` x ` - 1 ` X.y ` True )"; got != want {
		t.Errorf("%s, want %s", got, want)
	}
}
