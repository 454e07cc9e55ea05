package syntax

import (
	"math/rand"
	"reflect"
	"slices"
	"testing"

	"lazyc/api"
	"lazyc/types"
)

// P6.5: what counts, and how often.
func TestSize(t *testing.T) {
	for _, test := range []struct {
		d    api.Decl
		want int
	}{
		{fun("f", clause(x, pv("x"))), 5}, {api.Decl{}, 1}, {value("x", x), 4}, {value("x", app(x, y)), 6}, {data("T", "a b"), 1},
		{data("T", "a", con("A", "a"), con("B", "")), 4}, {data("T", "", labelled("x y", con("A", "a -> b; Int"))), 8}, {class("C", "a"), 1},
		{given(class("C", "a", sig("x y z", "a")), pred("D", "a"), pred("E", "a")), 7}, {inst("C", "Maybe a"), 4}, {sig("x y", "a -> b", pred("C", "a")), 8}, {fix(0, 9, "+ -"), 1},
		{patDecl(pcon("A", wild(), pv("x")), x), 6}, {patDecl(wild(), x, value("x", y)), 8}, {value("x", record("A", field("x", x), field("y", y))), 8},
		{value("x", signed(x, "Maybe a", pred("C", "a"))), 10}, {value("x", caseOf(x, alt(wild(), y))), 9}, {value("x", comp(x, gen(wild(), y), letStmt(), exp(y))), 11},
		{fun("x", api.Clause{Rhs: []api.Rhs{guarded(x, y), guarded(y, x)}}), 8}, {value("x", infix("+ +", x, x, x)), 7}, {value("x", api.Expr{Op: 99, Names: []string{"x"}}), 4},
		// Op 0 counts for nothing, with its parts.
		{value("x", kids(0, x, x)), 3}, {value("x", app(x, kids(0, x))), 5}, {patDecl(pkids(0, wild()), x), 3}, {value("x", record("A", field("x", api.Expr{}))), 5},
		{api.Decl{Op: api.DSig, Type: api.Type{Kids: []api.Type{ty("a")}}}, 1}, {api.Decl{Op: api.DSig, Type: api.Type{Op: api.TApp, Kids: []api.Type{{}}}}, 3},
		{api.Decl{Preds: []api.Pred{{}}, Cons: []api.ConDecl{{Fields: []api.Type{{}, ty("a")}}}}, 4},
	} {
		if got := Size(main(test.d)); got != test.want {
			t.Errorf("Size(%v) = %d, want %d", test.d, got, test.want)
		}
	}
	if got := Size(api.Module{}); got != 0 {
		t.Error(got)
	}
	exports := []api.Export{{Name: "x"}, {Name: "T", Subs: []string{"A", "B"}}}
	m := api.Module{Exports: exports, Imports: []api.Import{{Module: "M"}, {Names: exports}}}
	if got := Size(m); got != 6 {
		t.Error(got)
	}
}

// sizeOf counts the parts of a tree, found by reflection.
func sizeOf(v reflect.Value) int {
	size := 0
	switch value := v.Interface().(type) {
	case api.Type:
		if value.Op == 0 {
			return 0
		}
		return types.Size(value)
	case api.Expr, api.Pat:
		if v.FieldByName("Op").Int() == 0 {
			return 0
		}
		size = 1
	case api.Alt, api.Clause, api.Rhs, api.Stmt, api.Field, api.Decl, api.ConDecl, api.Pred, api.Export, api.Import:
		size = 1
	}
	switch v.Kind() {
	case reflect.Struct:
		for i := range v.NumField() {
			size += sizeOf(v.Field(i))
		}
	case reflect.Slice:
		for i := range v.Len() {
			size += sizeOf(v.Index(i))
		}
	}
	return size
}

// P6.5: random modules, and longer ones.
func TestSizeOfModules(t *testing.T) {
	r := maker{rand.New(rand.NewSource(3))}
	for range 1000 {
		m := r.module()
		size := Size(m)
		if want := sizeOf(reflect.ValueOf(m)); size != want {
			t.Fatalf("Size(%s) = %d, want %d", Print(m), size, want)
		}
		if size < len(m.Decls)+len(m.Imports)+len(m.Exports) {
			t.Fatalf("Size(%s) = %d", Print(m), size)
		}
		for _, longer := range []api.Module{
			{Decls: append(slices.Clone(m.Decls), r.decl()), Imports: m.Imports, Exports: m.Exports},
			{Decls: m.Decls, Imports: append(slices.Clone(m.Imports), api.Import{}), Exports: m.Exports},
			{Decls: m.Decls, Imports: m.Imports, Exports: append(slices.Clone(m.Exports), api.Export{})},
		} {
			if Size(longer) <= size {
				t.Fatalf("the size of a longer module than %s is %d", Print(m), Size(longer))
			}
		}
	}
}
