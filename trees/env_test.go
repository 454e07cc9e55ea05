package trees_test

import (
	"reflect"
	"testing"

	"lazyc/api"
	"lazyc/trees"
)

// checkNew reports whether a copy of a tree with all fields is equal, and new memory.
func checkNew[T any](t *testing.T, copied func(T) T) {
	t.Helper()
	tree := filled[T]()
	checkCopy(t, copied, func(a, b *T) bool { return reflect.DeepEqual(*a, *b) })
	var zero T
	if !reflect.DeepEqual(copied(zero), zero) || reflect.DeepEqual(tree, zero) {
		t.Errorf("%v", zero)
	}
}

// Copies of environments and kernel modules are equal, and new memory.
func TestCopiesOfEnvironments(t *testing.T) {
	checkNew(t, trees.Data)
	checkNew(t, trees.Class)
	checkNew(t, trees.Inst)
	checkNew(t, trees.Env)
	checkNew(t, trees.KModule)
}

func TestIsSimple(t *testing.T) {
	a := api.Type{Op: api.TVar, Name: "a"}
	all := api.Type{Op: api.TForall, Name: "a", Kids: []api.Type{a}}
	list := api.Type{Op: api.TCon, Name: "[]"}
	for _, c := range []struct {
		t    api.Type
		want bool
	}{
		{a, true},
		{list, true},
		{api.Type{Op: api.TApp, Kids: []api.Type{list, a}}, true},
		{api.Type{Op: api.TApp, Kids: []api.Type{list, all}}, false},
		{api.Type{Op: api.TApp, Kids: []api.Type{list, {}}}, false},
		{api.Type{Op: api.TApp, Kids: []api.Type{list}}, false},
		{all, false},
		{api.Type{}, false},
	} {
		if trees.IsSimple(c.t) != c.want {
			t.Errorf("%v", c.t)
		}
	}
}
