package scope

import (
	"strings"
	"testing"

	"lazyc/api"
)

func exportation(m api.Module, imports []api.Iface) string {
	list, fault := Exports(m, imports)
	if fault != (api.Fault{}) {
		return strings.TrimSpace(faultText(fault) + " " + exportsText(list))
	}
	return exportsText(list)
}

func checkExports(t *testing.T, imports []api.Iface, cases []moduleCase) {
	t.Helper()
	for _, c := range cases {
		m := parsed(t, c.source)
		if got := exportation(m, imports); got != c.want {
			t.Errorf("%s\n got %s\nwant %s", c.source, got, c.want)
		}
		// P11.2: Module has the same exports, and the same faults before its own.
		if resolved, fault := Module(m, imports); fault == (api.Fault{}) && exportsText(resolved.Exports) != c.want {
			t.Errorf("%s: the module exports %s", c.source, exportsText(resolved.Exports))
		} else if strings.HasPrefix(c.want, "Err") && faultText(fault) != c.want {
			t.Errorf("%s: the fault of the module is %s", c.source, faultText(fault))
		}
	}
}

// P11.1: the exports of a module without an export list.
func TestExportsAll(t *testing.T) {
	checkExports(t, nil, []moduleCase{
		{"module M where { }", ""},
		{"f = A ; data T = A | B", "Main.f Main.T(Main.A,Main.B)"},
		{"module M where { f :: Int ; f = 1 ; infixl 6 + ; (x, [y, (+)]) = f ; data T }", "M.f M.x M.y M.+ M.T"},
		{"module M where { data T a = A { l, m :: a } | a :+ a | B { n, m :: a } | C a ; class C a where { o, p :: a ; o = q ; (*) :: a } ; q = 1 ; instance C (T a) where { o = 1 } }",
			"M.T(M.A,M.:+,M.B,M.C,M.l,M.m,M.n) M.C(M.o,M.p,M.*) M.q"},
		{"module M where { data A = A ; data B = B A ; f A = B }", "M.A(M.A) M.B(M.B) M.f"},
	})
}

// P11.1: export lists.
func TestExports(t *testing.T) {
	imports := interfaces(t,
		"module A where { data T = B { l :: Int } | C { l, k :: Int } ; data U = D ; f = 1 ; g = 2 ; class K a where { m, n :: a } }",
		"module B (T (B, k), V, f, K (n), seq, Int) where { import A (T (..), K (..)) ; data V = W ; f = 3 }")
	own := " data T = A | B ; data S = S { l :: Int } ; class C a where { m, o :: a } ; f = A ; (p, q) = f }"
	checkExports(t, imports, []moduleCase{
		{"module M (f, T (..)) where { f = A ; data T = A | B }", "M.f M.T(M.A,M.B)"},
		{"module M () where {" + own, ""},
		{"module M (q, l, m, S, T (..), C (o)) where {" + own, "M.q M.l M.m M.S M.T(M.A,M.B) M.C(M.o)"},
		{"module M (M.f, S (l, S), M.C (..), f) where {" + own, "M.f M.S(M.l,M.S) M.C(M.m,M.o)"},
		{"module M (T (B), f, T (A, B), T, C, T (..), M.C (o, m, o)) where {" + own, "M.T(M.B,M.A) M.f M.C(M.o,M.m)"},
		{"module M (seq, Int, Bool (..), IO, intAdd) where {" + own, "seq Int Bool IO intAdd"},
		{"module M (Bool (True)) where {" + own, "ErrExport True"},
		{"module M (T (..), K (..), D, A.f) where { import A ; data D = D }", "A.T(A.B,A.C,A.l,A.k) A.K(A.m,A.n) M.D A.f"},
		{"module M (T (..), K (..)) where { import B }", "A.T(A.B,A.k) A.K(A.n)"},
		{"module M (T (..)) where { import A (T) }", "A.T"},
		{"module M (T (..)) where { import B hiding (B) ; import A (T, l) }", "A.T(A.l,A.k)"},
		{"module M (T (l, C)) where { import A (T) ; import qualified A as X }", "A.T(A.l,A.C)"},
		{"module M (X.T (..), X.f) where { import qualified A as X ; data T = A ; f = 1 }", "A.T(A.B,A.C,A.l,A.k) A.f"},
		{"module M (K (..)) where { import qualified A as X hiding (m) ; import A (K) }", "A.K(A.n)"},
		{"module M (f) where { import A ; import B }", "ErrAmbiguous f"},
		{"module M (T, K (n)) where { import A ; import B }", "A.T A.K(A.n)"},
		{"module M (B.f, B.seq, B.Int) where { import B }", "B.f seq Int"},
		{"module M (B.intAdd) where { import B }", "ErrScope B.intAdd"},
		{"module M (x) where {" + own, "ErrScope x"},
		{"module M (f, A) where {" + own, "ErrScope A"},
		{"module M (T (A, X, Y)) where {" + own, "ErrExport X"},
		{"module M (T (f)) where {" + own, "ErrExport f"},
		{"module M (T (S), X) where {" + own, "ErrExport S"},
		{"module M (X, T (S)) where {" + own, "ErrScope X"},
		{"module M (T (C)) where { import B }", "ErrExport C"},
		{"module M (N.f) where {" + own, "ErrScope N.f"},
		{"module M (A.T) where {" + own, "ErrScope A.T"},
	})
}

// P11.1: different exported entities with the same simple name.
func TestExportsTwice(t *testing.T) {
	imports := interfaces(t,
		"module A where { data T = T | U { l :: Int } ; f = 1 ; class C a where { m :: a } }",
		"module B (T, l, f) where { data T = T { l :: Int } | U ; f = 1 }")
	checkExports(t, imports, []moduleCase{
		{"module M (f, A.f) where { import A ; f = 1 }", "ErrAmbiguous f"},
		{"module M (M.f, A.f) where { import A ; f = 1 }", "ErrTwice f"},
		{"module M (M.f, A.f, x) where { import A ; f = 1 }", "ErrScope x"},
		{"module M (A.f, B.f, A.T, B.T) where { import A ; import B }", "ErrTwice f"},
		{"module M (A.T, B.T, A.f, B.f) where { import A ; import B }", "ErrTwice T"},
		{"module M (A.f, T (..)) where { import A ; data T' = T' }", "A.f A.T(A.T,A.U,A.l)"},
		{"module M (A.T (..), D (..)) where { import A ; data D = T }", "ErrTwice T"},
		{"module M (A.T (U), D (..)) where { import A ; data D = T }", "A.T(A.U) M.D(M.T)"},
		{"module M (A.T (l), B.l) where { import A ; import B }", "ErrTwice l"},
		{"module M (B.l, A.T (l)) where { import A ; import B }", "ErrTwice l"},
		{"module M (A.l, A.T (l), A.l) where { import A ; import B }", "A.l A.T(A.l)"},
		{"module M (D, T) where { import A ; data D = T }", "M.D A.T"},
		{"module M (T (..)) where { import A (T) }", "A.T"},
		{"module M (C, M.C) where { import A hiding (C) ; class C a where { m :: a } }", "M.C"},
	})
}

// P11.1: what is declared twice.
func TestTwice(t *testing.T) {
	checkExports(t, nil, []moduleCase{
		{"module M where { f = 1 ; g = 2 ; f = 3 }", "ErrTwice f"},
		{"module M (x) where { import X ; f = x ; g = 2 ; f = 3 }", "ErrTwice f"},
		{"module M where { f = 1 ; (f, g) = 2 ; g = 3 }", "ErrTwice f"},
		{"module M where { (g, g) = 2 }", "ErrTwice g"},
		{"module M where { seq = 1 }", "ErrTwice seq"},
		{"module M where { data Int = A }", "ErrTwice Int"},
		{"module M where { data T = Int }", "ErrTwice Int"},
		{"module M where { data True = A }", "ErrTwice True"},
		{"module M where { class Exc a }", "ErrTwice Exc"},
		{"module M where { data T = A | True }", "ErrTwice True"},
		{"module M where { data T = A | B | A }", "ErrTwice A"},
		{"module M where { data T = A ; data S = A ; data T = A }", "ErrTwice A"},
		{"module M where { data T = A ; data T = A }", "ErrTwice T"},
		{"module M where { data T = A ; class T a where { m :: a } }", "ErrTwice T"},
		{"module M where { data T = T ; class C a where { m, c :: a } ; class D a where { n, c :: a } }", "ErrTwice c"},
		{"module M where { class C a where { m :: a ; m :: Int } }", "ErrTwice m"},
		{"module M where { class C a where { m, m :: a } }", "ErrTwice m"},
		{"module M where { class C a where { ord :: a } }", "ErrTwice ord"},
		{"module M where { class C a where { m :: a } ; m = 1 }", "ErrTwice m"},
		{"module M where { data T = A { l :: Int } ; l = 1 }", "ErrTwice l"},
		{"module M where { l = 1 ; data T = A { l :: Int } }", "ErrTwice l"},
		{"module M where { data T = A { l :: Int } ; data S = B { l :: Int } }", "ErrTwice l"},
		{"module M where { data T = A { l, k, l :: Int } | B | B }", "ErrTwice B"},
		{"module M where { data T = A { l, k, l :: Int } | B { k, k :: Int, m :: Int } }", "ErrTwice l"},
		{"module M where { data T = A { l, k :: Int } | B { m, k, k :: Int, m :: Int } ; k = 1 }", "ErrTwice k"},
		{"module M where { data T = A { chr, k, k :: Int } }", "ErrTwice chr"},
		{"module M where { data T = A { k, m :: Int } | B { m :: Int, k :: Int } }", "M.T(M.A,M.B,M.k,M.m)"},
	})
}

// P11.1: arguments that are not valid.
func TestInvalid(t *testing.T) {
	value := func(name string) api.Decl {
		return api.Decl{Op: api.DFun, Name: name, Clauses: []api.Clause{{Rhs: []api.Rhs{{Body: api.Expr{Op: api.EInt}}}}}}
	}
	data := func(name, con, label string) api.Decl {
		return api.Decl{Op: api.DData, Name: name, Cons: []api.ConDecl{{Name: con, Fields: []api.Type{ty("Int")}, Labels: []string{label}}}}
	}
	class := func(name, method string) api.Decl {
		return api.Decl{Op: api.DClass, Name: name, Names: []string{"a"}, Decls: []api.Decl{{Op: api.DSig, Names: []string{method}, Type: ty("a")}}}
	}
	tuple := api.Decl{Op: api.DPat, Pat: api.Pat{Op: api.PLazy, Kids: []api.Pat{{Op: api.PVar, Name: "M.x"}}}, Rhs: []api.Rhs{{Body: api.Expr{Op: api.EInt}}}}
	for _, c := range []struct {
		decl api.Decl
		want string
	}{
		{value("f"), ""},
		{value("f$1"), "ErrArg"},
		{value("M.f"), "ErrArg"},
		{value("seq"), "ErrTwice seq"},
		{value("F"), "ErrArg"},
		{tuple, "ErrArg"},
		{data("T", "A", "l"), ""},
		{data("T$1", "A", "l"), "ErrArg"},
		{data("T", "A$1", "l"), "ErrArg"},
		{data("T", "A", "l$1"), "ErrArg"},
		{data("T", "A", "M.l"), "ErrArg"},
		{data("()", "A", "l"), "ErrTwice ()"},
		{data("T", "(,)", "l"), "ErrTwice (,)"},
		{class("C", "m"), ""},
		{class("C$1", "m"), "ErrArg"},
		{class("C", "m$1"), "ErrArg"},
	} {
		m := api.Module{Name: "M", All: true, Decls: []api.Decl{value("g"), c.decl}}
		if c.want == "ErrArg" {
			m.Decls = append(m.Decls, value("g"))
		}
		got, exports := resolution(m, nil), exportation(m, nil)
		if c.want == "" && strings.HasPrefix(got+exports, "Err") || c.want != "" && (got != c.want || exports != c.want) {
			t.Errorf("%v: %s, %s, want %s", c.decl, got, exports, c.want)
		}
	}
	imports := []api.Iface{{Module: "A"}, {Module: "B"}, {Module: "A"}}
	m := api.Module{Name: "M", All: true, Decls: []api.Decl{value("g"), value("g")}}
	if got := resolution(m, imports) + exportation(m, imports) + exprResolution(api.Expr{Op: api.EInt}, imports); got != "ErrArgErrArgErrArg" {
		t.Errorf("two interfaces of one module: %s", got)
	}
	for _, m := range []api.Module{{}, {Name: "m"}, {Name: "M", All: true, Decls: []api.Decl{{}}}} {
		if got := resolution(m, nil) + exportation(m, nil); got != "ErrArgErrArg" {
			t.Errorf("%v: %s", m, got)
		}
	}
	for _, e := range []api.Expr{{}, {Op: api.EInt, N: -1}, {Op: api.EVar, Name: "X"}, {Op: api.ELam}, {Op: 99}} {
		if got := exprResolution(e, nil); got != "ErrArg" {
			t.Errorf("%v: %s", e, got)
		}
	}
	deep := api.Expr{Op: api.EInt}
	for range api.MaxDepth {
		deep = api.Expr{Op: api.ENeg, Kids: []api.Expr{deep}}
	}
	if got := exprResolution(deep, nil); got != "ErrArg" {
		t.Errorf("a nested expression: %s", got)
	}
	if got := exprResolution(deep.Kids[0], nil); strings.HasPrefix(got, "Err") {
		t.Errorf("a nested expression: %s", got)
	}
}
