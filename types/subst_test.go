package types

import (
	"slices"
	"strings"
	"testing"

	"lazyc/api"
)

// P4.2: the free variables, in their order.
func TestFree(t *testing.T) {
	for _, test := range []struct {
		t    api.Type
		want string
	}{
		{a, "a"}, {integer, ""}, {app(b, a, b, x), "b a x"},
		{fun(tv("c"), fun(a, tv("c"))), "c a"},
		{all("a", a), ""}, {all("a", fun(b, a)), "b"}, {fun(all("a", fun(b, a)), a), "b a"},
		{fun(a, all("a", a)), "a"}, {app(all("a", a), all("b", app(a, b)), b), "a b"},
		{all("a", app(all("a", a), a, x)), "x"}, {all("a", all("b", app(a, b, x))), "x"},
		{tv("a$1"), "a$1"},
	} {
		if got := Free(test.t); strings.Join(got, " ") != test.want {
			t.Errorf("Free(%v) = %v", test.t, got)
		}
	}
	for _, bad := range append(odd(), nested(101), wide(20001)) {
		if got := Free(app(a, bad)); len(got) != 0 {
			t.Error(got)
		}
	}
	if got := Free(wide(19999)); !slices.Equal(got, []string{"a"}) {
		t.Error(got)
	}
}

// substitution returns the bindings of names to types.
func substitution(pairs ...any) []api.Binding {
	var s []api.Binding
	for i := 0; i < len(pairs); i += 2 {
		s = append(s, api.Binding{Name: pairs[i].(string), Type: pairs[i+1].(api.Type)})
	}
	return s
}

func checkSubst(t *testing.T, t0, want api.Type, pairs ...any) {
	t.Helper()
	if got := Subst(substitution(pairs...), t0); !same(got, want) {
		t.Errorf("Subst(%v, %s) = %s, want %s", pairs, Print(t0), Print(got), Print(want))
	}
}

// P4.2: substitution without renaming.
func TestSubst(t *testing.T) {
	checkSubst(t, a, a)
	checkSubst(t, a, integer, "a", integer)
	checkSubst(t, a, a, "b", integer)
	checkSubst(t, tc("A"), tc("A"), "a", integer)
	checkSubst(t, app(a, b, a), app(b, a, b), "a", b, "b", a)
	checkSubst(t, app(a, b), app(maybe, integer, b), "a", app(maybe, integer))
	checkSubst(t, a, integer, "a", integer, "a", maybe)
	checkSubst(t, app(a, b), app(b, integer), "a", b, "b", integer, "a", a, "b", x)
	checkSubst(t, all("a", app(a, b)), all("a", app(a, integer)), "a", maybe, "b", integer)
	checkSubst(t, app(all("a", a), a), app(all("a", a), maybe), "a", maybe)
	checkSubst(t, allOf("f", one, app(tv("f"), b)), allOf("f", one, app(tv("f"), x)), "b", x)
	checkSubst(t, tv("a$1"), integer, "a$1", integer, "a", maybe)
	checkSubst(t, a, all("b", b), "a", all("b", b))
}

// P4.2: the variables of quantifications that would capture others are renamed.
func TestSubstRenames(t *testing.T) {
	v := func(names string) api.Type {
		list := strings.Fields(names)
		t := tv(list[0])
		for _, name := range list[1:] {
			t = app(t, tv(name))
		}
		return t
	}
	checkSubst(t, all("b", fun(a, b)), all("b$1", fun(b, tv("b$1"))), "a", b)
	checkSubst(t, allOf("b", one, v("a b")), allOf("b$1", one, v("b b$1")), "a", b)
	// The variable is not free in a type that is used.
	checkSubst(t, all("b", v("a b")), all("b", v("x b")), "a", x, "c", b)
	checkSubst(t, all("b", b), all("b", b), "a", b)
	checkSubst(t, all("b", v("a b")), all("b", v("x b")), "a", x, "b", b)
	checkSubst(t, all("b", v("a b")), all("b", app(all("b", b), b)), "a", all("b", b))
	// Names that are free in the body, or in the types, are avoided; others are not.
	checkSubst(t, all("b", v("a b b$1 b$3")), all("b$2", v("b b$2 b$1 b$3")), "a", b)
	checkSubst(t, all("b", v("a b")), all("b$3", app(v("b$1 b b$2"), tv("b$3"))), "a", v("b$1 b b$2"))
	checkSubst(t, all("b", v("a b c")), all("b$2", app(b, tv("b$2"), tv("b$1"))), "a", b, "c", tv("b$1"), "d", tv("b$2"))
	checkSubst(t, all("b", app(v("a b"), all("b$1", tv("b$1")))), all("b$1", app(v("b b$1"), all("b$1", tv("b$1")))), "a", b)
	// A free variable of the body that is itself replaced is avoided, too.
	checkSubst(t, all("b", v("a b b$1")), all("b$2", v("b b$2 x")), "a", b, "b$1", x)
	// The base of a generated name.
	checkSubst(t, all("b$7", v("a b$7")), all("b$1", v("b$7 b$1")), "a", tv("b$7"))
	checkSubst(t, all("b$1", v("a b$1")), all("b$2", v("b$1 b$2")), "a", tv("b$1"))
	checkSubst(t, all("b$1", v("a x")), all("b$2", v("b$1 x")), "a", tv("b$1"))
	checkSubst(t, all("forall$3", v("a x")), all("forall$1", v("forall$3 x")), "a", tv("forall$3"))
	// Quantifications inside of one that is renamed.
	checkSubst(t, all("b", all("b$1", v("a b b$1"))), all("b$1", all("b$2", v("b b$1 b$2"))), "a", b)
	checkSubst(t, all("b", all("b", v("a b"))), all("b$1", all("b$1", v("b b$1"))), "a", b)
	checkSubst(t, all("b", app(v("a b"), all("b", b))), all("b$1", app(v("b b$1"), all("b", b))), "a", b)
	checkSubst(t, all("b", app(v("a b"), all("c", v("b c")))), all("b$1", app(v("b b$1"), all("c", v("b$1 c")))), "a", b)
	checkSubst(t, all("b", all("a", v("a b"))), all("b", all("a", v("a b"))), "a", b)
	// Only the quantification that contains the replaced variable is concerned.
	checkSubst(t, app(all("b", b), all("b", v("a b"))), app(all("b", b), all("b$1", v("b b$1"))), "a", b)
}

// P4.2: arguments that are not valid.
func TestSubstInvalid(t *testing.T) {
	for _, bad := range append(odd(), nested(101), wide(20001), tc("a"), tv("A")) {
		checkSubst(t, bad, api.Type{}, "a", b)
		checkSubst(t, bad, api.Type{})
		checkSubst(t, a, api.Type{}, "a", bad)
		checkSubst(t, a, api.Type{}, "x", bad)
		checkSubst(t, a, api.Type{}, "a", b, "a", bad)
	}
	for _, name := range []string{"", "A", "forall", "a$01", "M.a", "where"} {
		checkSubst(t, a, api.Type{}, name, b)
		checkSubst(t, a, api.Type{}, "a", b, name, b)
	}
}

// P4.2: the limits of the result.
func TestSubstLimits(t *testing.T) {
	checkSubst(t, nested(50), nested(100), "a", nested(51))
	checkSubst(t, nested(50), api.Type{}, "a", nested(52))
	checkSubst(t, app(nested(100), b), api.Type{}, "b", integer)
	checkSubst(t, app(nested(99), b), app(nested(99), nested(99)), "b", nested(99))
	checkSubst(t, app(nested(99), b), api.Type{}, "b", nested(100))
	checkSubst(t, app(b, b), app(wide(9999), wide(9999)), "b", wide(9999))
	checkSubst(t, app(b, b), api.Type{}, "b", wide(10001))
	checkSubst(t, all("c", app(b, wide(9999))), all("c", app(wide(9999), wide(9999))), "b", wide(9999))
	checkSubst(t, all("c", app(b, wide(9999))), api.Type{}, "b", wide(10001))
	checkSubst(t, app(wide(19997), b), app(wide(19997), b), "b", b)
	checkSubst(t, app(wide(19997), b), api.Type{}, "b", app(a, a))
	checkSubst(t, wide(19999), api.Type{}, "a", wide(19999))
	checkSubst(t, app(b, all("b", nested(98))), app(integer, all("b", nested(98))), "b", integer)
	checkSubst(t, all("b", app(b, a)), all("b", app(b, wide(9999))), "b", wide(19999), "a", wide(9999))
}

// P4.2: equality up to the names of quantified variables.
func TestEqual(t *testing.T) {
	f, g := tv("f"), tv("g")
	classes := [][]api.Type{ // equal ones
		{a}, {b}, {integer}, {maybe}, {app(a, b)}, {app(b, a)}, {app(a, app(b, x))}, {app(a, b, x)}, {fun(a, b)},
		{all("a", a), all("b", b), all("b$1", tv("b$1"))},
		{all("a", b), all("x", b)}, {all("a", x), all("b", x)}, {all("a", integer), all("b", integer)},
		{all("a", all("b", fun(a, b))), all("b", all("a", fun(b, a))), all("x", all("b", fun(x, b)))},
		{all("a", all("b", fun(b, a))), all("b", all("a", fun(a, b)))},
		{all("a", all("a", a)), all("a", all("b", b)), all("b", all("a", a))},
		{all("a", all("b", a)), all("b", all("a", b)), all("x", all("x'", x))},
		{allOf("f", one, app(f, a)), allOf("g", one, app(g, a))},
		{allOf("f", one, app(f, b))}, {all("f", app(f, a)), all("g", app(g, a))}, {allOf("f", kind(one), app(f, a))},
		{fun(all("a", a), a), fun(all("b", b), a)}, {fun(all("a", a), b)},
		{all("a", fun(a, all("a", a))), all("b", fun(b, all("a", a))), all("a", fun(a, all("b", b)))},
		{all("a", fun(a, all("b", a)))},
		{all("a", app(all("b", b), x, a)), all("b", app(all("b", b), x, b))},
	}
	for i, list := range classes {
		for j, other := range classes {
			for _, t1 := range list {
				for _, t2 := range other {
					if got := Equal(t1, t2); got != (i == j) {
						t.Errorf("Equal(%s, %s) = %v", Print(t1), Print(t2), got)
					}
				}
			}
		}
	}
	for _, bad := range append(odd(), nested(101), wide(20001), tc("a")) {
		if Equal(bad, bad) || Equal(a, bad) || Equal(bad, a) {
			t.Errorf("%.100v is equal to a type", bad)
		}
	}
	if !Equal(wide(19999), wide(19999)) || !Equal(nested(100), nested(100)) || Equal(nested(100), nested(99)) {
		t.Error("large types")
	}
}
