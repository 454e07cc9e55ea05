package trees_test

import (
	"reflect"
	"testing"

	"lazyc/api"
	"lazyc/trees"
)

// fill gives each field of a value something that is not zero, down to a depth.
func fill(v reflect.Value, deep int, next *int) {
	*next++
	switch v.Kind() {
	case reflect.String:
		v.SetString(string(rune('a' + *next%26)))
	case reflect.Int:
		v.SetInt(int64(*next))
	case reflect.Bool:
		v.SetBool(true)
	case reflect.Struct:
		for i := range v.NumField() {
			fill(v.Field(i), deep, next)
		}
	case reflect.Slice:
		if deep > 0 {
			v.Set(reflect.MakeSlice(v.Type(), 2, 2))
			fill(v.Index(0), deep-1, next)
			fill(v.Index(1), deep-2, next)
		}
	}
}

// filled returns a tree with all fields.
func filled[T any]() T {
	var tree T
	next := 0
	fill(reflect.ValueOf(&tree).Elem(), 3, &next)
	return tree
}

func checkCopy[T any](t *testing.T, copied func(T) T, same func(a, b *T) bool) {
	t.Helper()
	tree := filled[T]()
	c := copied(tree)
	if !reflect.DeepEqual(c, tree) || !same(&c, &tree) {
		t.Fatalf("%v\ncopied\n%v", tree, c)
	}
	before, after := map[uintptr]bool{}, map[uintptr]bool{}
	slicesOf(reflect.ValueOf(tree), before)
	slicesOf(reflect.ValueOf(c), after)
	for place := range after {
		if before[place] {
			t.Error("a slice is shared")
		}
	}
	changes := 0
	eachChange(reflect.ValueOf(&c).Elem(), func() {
		changes++
		if same(&c, &tree) || same(&tree, &c) {
			t.Errorf("the same after a change: %v", c)
		}
	})
	if changes < 5 || !same(&c, &tree) {
		t.Errorf("%d changes", changes)
	}
}

// eachChange calls check for each tree that differs from v in one place, while v has that change.
func eachChange(v reflect.Value, check func()) {
	old := reflect.New(v.Type()).Elem()
	old.Set(v)
	switch v.Kind() {
	case reflect.String:
		v.SetString(old.String() + "'")
	case reflect.Int:
		v.SetInt(old.Int() + 1)
	case reflect.Bool:
		v.SetBool(!old.Bool())
	case reflect.Struct:
		for i := range v.NumField() {
			eachChange(v.Field(i), check)
		}
		return
	case reflect.Slice:
		for i := range v.Len() {
			eachChange(v.Index(i), check)
		}
		if v.Len() == 0 {
			v.Set(reflect.MakeSlice(v.Type(), 1, 1))
		} else {
			v.Set(v.Slice(0, v.Len()-1))
		}
	}
	check()
	v.Set(old)
}

// Copies of types, schemes and kernel expressions are equal, and new memory; what differs in one field is not the same.
func TestCopiesAndSame(t *testing.T) {
	checkCopy(t, trees.Type, trees.SameType)
	checkCopy(t, trees.Scheme, trees.SameScheme)
	checkCopy(t, trees.Kernel, trees.SameKernel)
	checkCopy(t, trees.Bind, func(a, b *api.KBind) bool {
		return trees.SameKernel(&api.Kernel{Binds: []api.KBind{*a}}, &api.Kernel{Binds: []api.KBind{*b}})
	})
}
