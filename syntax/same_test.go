package syntax

import (
	"math/rand"
	"reflect"
	"testing"

	"lazyc/api"
)

// copyOf returns a copy that shares no memory with v.
func copyOf(v reflect.Value) reflect.Value {
	c := reflect.New(v.Type()).Elem()
	c.Set(v)
	switch v.Kind() {
	case reflect.Struct:
		for i := range v.NumField() {
			c.Field(i).Set(copyOf(v.Field(i)))
		}
	case reflect.Slice:
		if v.Len() > 0 {
			c.Set(reflect.MakeSlice(v.Type(), v.Len(), v.Len()))
			for i := range v.Len() {
				c.Index(i).Set(copyOf(v.Index(i)))
			}
		}
	}
	return c
}

func clone[T any](tree T) T { return copyOf(reflect.ValueOf(tree)).Interface().(T) }

// eachChange calls check for each tree that differs from v in one place, while v has that change.
func eachChange(v reflect.Value, check func()) {
	old := copyOf(v)
	switch v.Kind() {
	case reflect.String:
		v.SetString(old.String() + "'")
	case reflect.Int:
		v.SetInt(old.Int() + 1)
	case reflect.Bool:
		v.SetBool(!old.Bool())
	case reflect.Struct:
		for i := range v.NumField() {
			eachChange(v.Field(i), check)
		}
		return
	case reflect.Slice:
		for i := range v.Len() {
			eachChange(v.Index(i), check)
		}
		if v.Len() > 0 {
			v.Set(v.Slice(0, v.Len()-1))
			check()
		}
		v.Set(reflect.Append(old, reflect.Zero(v.Type().Elem())))
	}
	check()
	v.Set(old)
}

// emptied replaces all slices that are nil by empty ones.
func emptied(v reflect.Value) {
	switch v.Kind() {
	case reflect.Struct:
		for i := range v.NumField() {
			emptied(v.Field(i))
		}
	case reflect.Slice:
		if v.IsNil() {
			v.Set(reflect.MakeSlice(v.Type(), 0, 2))
		}
		for i := range v.Len() {
			emptied(v.Index(i))
		}
	}
}

// checkSame checks that exactly copies of a tree are the same.
func checkSame[T any](t *testing.T, tree T, same func(a, b T) bool) {
	t.Helper()
	if !same(tree, tree) || !same(tree, clone(tree)) {
		t.Errorf("%.300v is not the same as itself", tree)
	}
	other := clone(tree)
	emptied(reflect.ValueOf(&other).Elem())
	if !same(tree, other) || !same(other, tree) {
		t.Errorf("%.300v is not the same with empty slices", tree)
	}
	other = clone(tree)
	eachChange(reflect.ValueOf(&other).Elem(), func() {
		if same(tree, other) || same(other, tree) {
			t.Errorf("%.300v is the same as %.300v", tree, other)
		}
	})
	if !reflect.DeepEqual(tree, other) {
		t.Fatal("a change remains")
	}
}

// P6.3: every field of every form counts, also where a form does not use it.
func TestSame(t *testing.T) {
	for _, e := range append(exprForms(), api.Expr{}, kids(77, api.Expr{Op: -3}), api.Expr{Op: api.EVar, Types: []api.Type{ty("forall (f :: * -> *). f")}}) {
		checkSame(t, e, SameExpr)
	}
	for _, p := range append(patForms(), api.Pat{}, pkids(77, api.Pat{Op: -3})) {
		checkSame(t, p, SamePat)
	}
	for _, d := range append(declForms(), api.Decl{}) {
		checkSame(t, main(d), Same)
	}
	m := main(api.Decl{}, value("x", comp(x, gen(wild(), x), letStmt(value("y", y)))), value("x", caseOf(x, api.Alt{Pat: wild(), Rhs: []api.Rhs{guarded(x, y)}, Where: []api.Decl{value("y", x)}})))
	m.Exports = []api.Export{{Name: "T", Subs: []string{"A"}}, {Name: "x", With: true}}
	m.Imports = []api.Import{{Module: "M", Names: m.Exports}}
	checkSame(t, m, Same)
	checkSame(t, api.Module{}, Same)
}

// P6.3: variables with the same meaning, but other names, make a difference.
func TestSameNames(t *testing.T) {
	a, b := signed(x, "forall a. a"), signed(x, "forall b. b")
	if SameExpr(a, b) || SameExpr(lam(x, pv("x")), lam(y, pv("y"))) || SameExpr(x, kids(api.EParen, x)) {
		t.Error("different expressions are the same")
	}
}

// P6.3: an equivalence relation, for which equal trees have equal texts.
func TestSameLaws(t *testing.T) {
	r := maker{rand.New(rand.NewSource(1))}
	equal := 0
	for range 3000 {
		a, b := r.expr(r.Intn(2)), r.expr(r.Intn(2))
		same := SameExpr(a, b)
		if same != reflect.DeepEqual(a, b) || same != SameExpr(b, a) || same && PrintExpr(a) != PrintExpr(b) {
			t.Fatalf("%v and %v: %v", a, b, same)
		}
		if same {
			equal++
		}
		p, q := r.pat(1), r.pat(1)
		if SamePat(p, q) != reflect.DeepEqual(p, q) || SamePat(p, q) && PrintPat(p) != PrintPat(q) {
			t.Fatalf("%v and %v: %v", p, q, SamePat(p, q))
		}
		m := r.module()
		if c := clone(m); !Same(m, c) || Print(m) != Print(c) {
			t.Fatalf("%v and its copy", m)
		}
	}
	if equal < 30 {
		t.Error("only", equal, "equal pairs")
	}
}

// P6.3: deep trees can be compared, too.
func TestSameDeep(t *testing.T) {
	if !SameExpr(deep(60000), deep(60000)) || SameExpr(deep(60000), deep(59999)) || !SamePat(deepPat(60000), deepPat(60000)) {
		t.Error("deep trees")
	}
	m := main(value("x", deep(60000)))
	if Check(m) != api.ErrDepth || CheckExpr(deep(60000)) != api.ErrDepth || Size(m) != 60003 || PrintExpr(deep(60000)) != "" || Free(deep(60000)) != nil {
		t.Error("deep trees are within the limits")
	}
	if got := Binders(as("y", deepPat(60000))); len(got) != 1 || got[0] != "y" {
		t.Error(got)
	}
}
