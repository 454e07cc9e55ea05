package trees_test

import (
	"reflect"
	"strings"
	"testing"

	"lazyc/api"
	"lazyc/parser"
	"lazyc/trees"
)

// everyForm is a module with every form of trees.
func everyForm(t *testing.T) api.Module {
	m, fault := parser.Module(`module M (f, T (A, B)) where {
		import A hiding (T (..), x) ; import qualified B as C (U (y)) ;
		data T a = A a [a] | B { x, y :: T a } deriving (Eq, Ord) ;
		class C a => D a where { m :: C b => a -> b ; m = 1 } ;
		instance C a => D (T a) where { m (- 1) 'a' "b" _ = - x + (y) } ;
		infixl 6 +, * ;
		f x@(y : ~z) [w, ()] | x = y | z = w where { g = 1 } ;
		(p, B { x = q }) = case p of { x : y | x -> y where { h = 2 } ; (z) -> z } ;
		e = do { x <- if a then b else c ; let { y, z :: Int ; y = 1 ; z = 2 } ; \x (y) -> x } ;
		l = [ (x +) | x <- [1 .. 2], let { k = (+ x) }, (x :: C a => [a]) ] ;
		r = let { s = A { x = 1 } } in s { y = (1, 2), x = 'c' } }`)
	if fault != (api.Fault{}) {
		t.Fatal(fault)
	}
	return m
}

// slicesOf notes where the slices of a value begin.
func slicesOf(v reflect.Value, found map[uintptr]bool) {
	switch v.Kind() {
	case reflect.Struct:
		for i := range v.NumField() {
			slicesOf(v.Field(i), found)
		}
	case reflect.Slice:
		if v.Len() > 0 {
			found[v.Pointer()] = true
		}
		for i := range v.Len() {
			slicesOf(v.Index(i), found)
		}
	}
}

// A copy is equal, and new memory.
func TestCopy(t *testing.T) {
	m := everyForm(t)
	var c trees.Copier
	copied := c.Module(m)
	if !reflect.DeepEqual(copied, m) {
		t.Fatalf("%v\ncopied\n%v", m, copied)
	}
	before, after := map[uintptr]bool{}, map[uintptr]bool{}
	slicesOf(reflect.ValueOf(m), before)
	slicesOf(reflect.ValueOf(copied), after)
	if len(before) != len(after) {
		t.Errorf("%d slices became %d", len(before), len(after))
	}
	for place := range after {
		if before[place] {
			t.Error("a slice is shared")
		}
	}
}

// The hooks see every node once, in the order of the text, inner nodes before outer ones, and replace it.
func TestHooks(t *testing.T) {
	var seen []string
	c := trees.Copier{
		OnExpr: func(source, copied api.Expr) api.Expr {
			if copied.Op == api.EVar {
				seen = append(seen, source.Name)
				copied.Name += "'"
			}
			return copied
		},
		OnPat: func(copied api.Pat) api.Pat {
			if copied.Op == api.PVar || copied.Op == api.PAs {
				seen = append(seen, copied.Name)
				copied.Name += "'"
			}
			return copied
		},
		OnDecl: func(copied api.Decl) {
			if copied.Op == api.DFun {
				seen = append(seen, copied.Name+"=")
			}
		},
	}
	copied := c.Module(everyForm(t))
	want := "m= x y m= y z x w x y z w g= f= p q p x y x y h= z z " +
		"x a b c y= z= x y x e= x x x k= x l= s= s r="
	if got := strings.Join(seen, " "); got != want {
		t.Errorf("%s\nwant\n%s", got, want)
	}
	if got := copied.Decls[4].Clauses[0].Pats[0].Name; got != "x'" {
		t.Errorf("the pattern is named %s", got)
	}
}

func TestMap(t *testing.T) {
	got := trees.Map([]string{"a", "bc", ""}, func(s string) int { return len(s) })
	if !reflect.DeepEqual(got, []int{1, 2, 0}) || trees.Map(nil, strings.ToUpper) != nil {
		t.Error(got)
	}
}

// Bound has the functions and the variables of patterns, as often as they occur, but no signatures and labels.
func TestBound(t *testing.T) {
	want := "m m y z x w g f p q x y h z x y z x y e x k l s r"
	if got := strings.Join(trees.Bound(everyForm(t)), " "); got != want {
		t.Errorf("%s\nwant\n%s", got, want)
	}
	if got := trees.Bound(api.Module{}); got != nil {
		t.Error(got)
	}
}

func TestExports(t *testing.T) {
	list := []api.Export{{Name: "f"}, {Name: "T", Subs: []string{"A", "B"}}, {Name: "U", With: true}}
	got := trees.Exports(list)
	if !reflect.DeepEqual(got, list) || &got[0] == &list[0] || &got[1].Subs[0] == &list[1].Subs[0] {
		t.Error(got)
	}
}

func TestDistinct(t *testing.T) {
	list := strings.Fields("b a b c a")
	if got := strings.Join(trees.Distinct(list), " "); got != "b a c" || trees.Distinct(nil) != nil {
		t.Error(got)
	}
}
