package types

import (
	"reflect"
	"slices"
	"strings"
	"testing"

	"lazyc/api"
)

func tv(name string) api.Type { return api.Type{Op: api.TVar, Name: name} }
func tc(name string) api.Type { return api.Type{Op: api.TCon, Name: name} }

func app(f api.Type, args ...api.Type) api.Type {
	for _, arg := range args {
		f = api.Type{Op: api.TApp, Kids: []api.Type{f, arg}}
	}
	return f
}

func fun(param, result api.Type) api.Type { return app(tc("->"), param, result) }

// all returns the quantification of a variable of the kind *.
func all(name string, body api.Type) api.Type { return allOf(name, kind(), body) }

func allOf(name string, k api.Kind, body api.Type) api.Type {
	return api.Type{Op: api.TForall, Name: name, Bound: k, Kids: []api.Type{body}}
}

func kind(args ...api.Kind) api.Kind { return api.Kind{Args: args} }

var (
	a, b, x   = tv("a"), tv("b"), tv("x")
	integer   = tc("Int")
	maybe     = tc("Maybe")
	star, one = kind(), kind(kind())
)

// nested returns a type of the given depth, with twice as many nodes, less one.
func nested(depth int) api.Type {
	t := a
	for range depth - 1 {
		t = app(maybe, t)
	}
	return t
}

// wide returns a type with n nodes, n odd, and a depth that is much smaller.
func wide(n int) api.Type {
	if n == 1 {
		return a
	}
	left := (n-1)/2 | 1
	return app(wide(left), wide(n-1-left))
}

// deepKind returns a kind of the given depth.
func deepKind(depth int) api.Kind {
	k := star
	for range depth - 1 {
		k = kind(k)
	}
	return k
}

// wideKind returns a kind with n nodes.
func wideKind(n int) api.Kind { return kind(slices.Repeat([]api.Kind{star}, n-1)...) }

// odd are values that are no types.
func odd() []api.Type {
	return []api.Type{
		{}, {Op: 9, Name: "a"}, {Op: -1}, {Op: api.TApp, Kids: []api.Type{a}}, {Op: api.TApp, Kids: []api.Type{a, b, x}}, {Op: api.TApp},
		{Op: api.TForall, Name: "a"}, {Op: api.TForall, Name: "a", Kids: []api.Type{a, b}}, {Op: api.TCon, Name: "->", Kids: []api.Type{a, b}},
	}
}

// same compares values apart from the difference of nil and empty slices, which these tests avoid.
func same(got, want any) bool { return reflect.DeepEqual(got, want) }

// scramble overwrites all memory of a type.
func scramble(t api.Type) {
	for i := range t.Kids {
		scramble(t.Kids[i])
		t.Kids[i] = api.Type{Op: 77}
	}
	scrambleKind(t.Bound)
}

func scrambleKind(k api.Kind) {
	for i := range k.Args {
		scrambleKind(k.Args[i])
		k.Args[i] = deepKind(7)
	}
}

// P4.1: function types.
func TestFun(t *testing.T) {
	if got := Fun(a); !same(got, a) {
		t.Error(got)
	}
	if got := Fun(a, b); !same(got, fun(b, a)) {
		t.Error(got)
	}
	if got := Fun(fun(a, b), fun(b, x), integer); !same(got, fun(fun(b, x), fun(integer, fun(a, b)))) {
		t.Error(got)
	}
	for _, bad := range odd() {
		if got := Fun(bad, bad, a); !same(got, fun(bad, fun(a, bad))) {
			t.Error(got)
		}
	}
}

// P4.1: the parts of function types.
func TestSplit(t *testing.T) {
	check := func(t0 api.Type, result api.Type, params ...api.Type) {
		t.Helper()
		gotParams, gotResult := Split(t0)
		if !same(gotResult, result) || !same(gotParams, params) {
			t.Errorf("Split(%v) = %v, %v", t0, gotParams, gotResult)
		}
	}
	check(a, a)
	check(fun(a, b), b, a)
	check(fun(a, fun(b, integer)), integer, a, b)
	check(fun(fun(a, b), x), x, fun(a, b))
	check(fun(a, all("b", fun(b, b))), all("b", fun(b, b)), a)
	check(app(tc("->"), a), app(tc("->"), a))
	check(tc("->"), tc("->"))
	check(app(tc("->"), a, b, x), app(tc("->"), a, b, x))
	check(app(tv("->"), a, b), app(tv("->"), a, b))
	check(app(tc("-->"), a, b), app(tc("-->"), a, b))
	check(app(maybe, fun(a, b)), app(maybe, fun(a, b)))
	strange := api.Type{Op: api.TCon, Name: "->", Bound: one, Kids: []api.Type{a}}
	check(app(strange, a, b), b, a)
	for _, bad := range odd() {
		check(bad, bad)
		check(fun(bad, bad), bad, bad)
	}
	bad := fun(a, b)
	bad.Kids = append(bad.Kids, x)
	check(bad, bad)
	bad = fun(a, b)
	bad.Kids[0].Kids = append(bad.Kids[0].Kids, x)
	check(bad, bad)
}

// P4.1: applications and their parts.
func TestApplySpine(t *testing.T) {
	checkSpine := func(t0, head api.Type, args ...api.Type) {
		t.Helper()
		gotHead, gotArgs := Spine(t0)
		if !same(gotHead, head) || !same(gotArgs, args) {
			t.Errorf("Spine(%v) = %v, %v", t0, gotHead, gotArgs)
		}
	}
	if got := Apply(maybe); !same(got, maybe) {
		t.Error(got)
	}
	for _, head := range append(odd(), a, maybe, all("a", app(a, b)), app(maybe, x)) {
		got := Apply(head, a, fun(a, b))
		if !same(got, api.Type{Op: api.TApp, Kids: []api.Type{{Op: api.TApp, Kids: []api.Type{head, a}}, fun(a, b)}}) {
			t.Error(got)
		}
	}
	checkSpine(maybe, maybe)
	checkSpine(app(maybe, a), maybe, a)
	checkSpine(app(a, b, app(maybe, x), integer), a, b, app(maybe, x), integer)
	checkSpine(fun(a, b), tc("->"), a, b)
	checkSpine(all("a", app(a, b)), all("a", app(a, b)))
	checkSpine(app(all("a", a), b), all("a", a), b)
	for _, bad := range odd() {
		checkSpine(bad, bad)
		checkSpine(app(bad, a, bad), bad, a, bad)
	}
}

// P4.1: size and depth, also of what is no type.
func TestSizeDepth(t *testing.T) {
	for _, test := range []struct {
		t           api.Type
		size, depth int
	}{
		{a, 1, 1}, {integer, 1, 1}, {api.Type{}, 1, 1},
		{app(maybe, a), 3, 2}, {fun(a, b), 5, 3}, {fun(a, fun(b, x)), 9, 4},
		{all("a", a), 2, 2}, {allOf("a", kind(one, one), fun(a, b)), 6, 4},
		{api.Type{Op: api.TApp, Kids: []api.Type{a, app(maybe, a), b}}, 6, 3},
		{api.Type{Op: api.TVar, Bound: deepKind(9), Kids: []api.Type{a}}, 2, 2},
		{nested(70000), 139999, 70000}, {wide(2001), 2001, 11},
	} {
		if size, depth := Size(test.t), Depth(test.t); size != test.size || depth != test.depth {
			t.Errorf("%.200v: %d %d, want %d %d", test.t, size, depth, test.size, test.depth)
		}
	}
}

// P4.1: names of variables and constructors.
func TestCheckNames(t *testing.T) {
	long := strings.Repeat("a", 64)
	for _, name := range []string{"a", "_a", "a'", "a$0", "a$12", "forall$1", "foralls", "forall'", long, long + "$9223372036854775807", "__"} {
		checkCheck(t, tv(name), api.OK)
		checkCheck(t, all(name, a), api.OK)
		checkCheck(t, tc(name), api.ErrArg)
	}
	for _, name := range []string{"Int", "M.Int", "X$1", "M.X$1", ":", ":+", "M.:+", ":+$1", "M.:+$$2", ":$1", "->", "[]", "()", "(,)", "(,,)", "(,,,)", "(,,,,)", "(,,,,,)", "(,,,,,,)", "A" + long[1:]} {
		checkCheck(t, tc(name), api.OK)
		checkCheck(t, tv(name), api.ErrArg)
		checkCheck(t, all(name, a), api.ErrArg)
	}
	for _, name := range []string{
		"", "forall", "where", "_", "+", "=", "=>", "::", "--", "M.a", "M.a$1", "a$01", "a$", "$1", "a$1$1", "a b", " a", "a.b", "1", "'a", long + "a", "M.", "M.where", "m.X", "M.N.X", "+$1", "M.+", "where$1", "A" + long,
		"(,,,,,,,)", "( )", "(->)", "(", ")", "(,", "[", "[,]", "->$1", "()$1", "[]$1", "(,)$1", "M.->", "M.[]", "a$9223372036854775808", "X$-1", ",", "*", ".",
	} {
		checkCheck(t, tv(name), api.ErrArg)
		checkCheck(t, tc(name), api.ErrArg)
		checkCheck(t, all(name, a), api.ErrArg)
	}
}

func checkCheck(t *testing.T, arg api.Type, want api.Errno) {
	t.Helper()
	if got := Check(arg); got != want {
		t.Errorf("Check(%.200v) = %v, want %v", arg, got, want)
	}
}

// P4.1: the fields of the forms of types.
func TestCheckForms(t *testing.T) {
	for _, good := range []api.Type{a, integer, app(a, b), fun(a, b), all("a", b), allOf("f", kind(one, one), app(tv("f"), a)),
		{Op: api.TVar, Name: "a", Bound: api.Kind{Args: []api.Kind{}}, Kids: []api.Type{}}} {
		checkCheck(t, good, api.OK)
	}
	bad := append(odd(),
		api.Type{Op: api.TVar, Name: "a", Bound: one}, api.Type{Op: api.TVar, Name: "a", Kids: []api.Type{b}},
		api.Type{Op: api.TCon, Name: "A", Bound: one}, api.Type{Op: api.TCon, Name: "A", Kids: []api.Type{b}},
		api.Type{Op: api.TApp, Name: "a", Kids: []api.Type{a, b}}, api.Type{Op: api.TApp, Bound: one, Kids: []api.Type{a, b}},
		api.Type{Op: api.TForall, Kids: []api.Type{a}},
	)
	for _, t0 := range bad {
		for _, whole := range []api.Type{t0, app(t0, a), app(a, t0), all("a", t0), fun(nested(200), t0), fun(wide(20001), t0)} {
			checkCheck(t, whole, api.ErrArg)
		}
	}
}

// P4.1: the limits of types, and of the kinds in them.
func TestCheckLimits(t *testing.T) {
	checkCheck(t, nested(100), api.OK)
	checkCheck(t, nested(101), api.ErrDepth)
	checkCheck(t, nested(70000), api.ErrLong)
	checkCheck(t, wide(19999), api.OK)
	checkCheck(t, all("a", wide(19999)), api.OK)
	checkCheck(t, wide(20001), api.ErrLong)
	checkCheck(t, all("a", all("b", wide(19999))), api.ErrLong)
	checkCheck(t, all("a", fun(nested(200), wide(20001))), api.ErrLong)
	for k, want := range map[*api.Kind]api.Errno{
		new(deepKind(100)): api.OK, new(deepKind(101)): api.ErrDepth, new(wideKind(20000)): api.OK, new(wideKind(20001)): api.ErrLong,
		new(kind(wideKind(20000), deepKind(200))): api.ErrLong, new(deepKind(70000)): api.ErrLong,
	} {
		checkCheck(t, allOf("a", *k, a), want)
		checkCheck(t, app(maybe, all("a", allOf("b", *k, a))), want)
	}
	checkCheck(t, fun(allOf("a", deepKind(101), a), allOf("a", wideKind(20001), a)), api.ErrLong)
	checkCheck(t, fun(nested(101), allOf("a", wideKind(20001), a)), api.ErrLong)
	checkCheck(t, allOf("a", wideKind(20000), wide(19999)), api.OK)
}

// P4.1: kinds are compared with all their parts.
func TestSameKind(t *testing.T) {
	kinds := []api.Kind{star, one, kind(star, star), kind(one), kind(one, star), kind(star, one), kind(kind(one)), deepKind(70000), wideKind(30000), wideKind(30001)}
	for i, k := range kinds {
		for j, l := range kinds {
			if got := SameKind(k, l); got != (i == j) {
				t.Errorf("kinds %d and %d: %v", i, j, got)
			}
		}
		if !SameKind(k, cloneKind(k)) {
			t.Error("kind", i, "differs from its copy")
		}
	}
	if !SameKind(star, api.Kind{Args: []api.Kind{}}) {
		t.Error("an empty slice differs from nil")
	}
}

// P4.1: results are new memory.
func TestNewMemory(t *testing.T) {
	arg := func() api.Type { return app(all("c", a), allOf("f", kind(one), fun(a, b))) }
	check := func(name string, f func(t api.Type) []api.Type) {
		t.Helper()
		want := f(arg())
		given := arg()
		got := f(given)
		if !same(given, arg()) {
			t.Errorf("%s changes its argument", name)
		}
		scramble(given)
		if !same(got, want) {
			t.Errorf("%s keeps its argument", name)
		}
		for i := range got {
			scramble(got[i])
			for j := i + 1; j < len(got); j++ {
				if !same(got[j], want[j]) {
					t.Errorf("%s: results %d and %d share memory", name, i, j)
				}
			}
		}
	}
	check("Fun", func(t api.Type) []api.Type { return []api.Type{Fun(t, t, t)} })
	check("Fun", func(t api.Type) []api.Type { return Fun(t, t, t).Kids })
	check("Apply", func(t api.Type) []api.Type { return []api.Type{Apply(t, t, t)} })
	check("Apply", func(t api.Type) []api.Type { return Apply(t, t, t).Kids })
	check("Spine", func(t api.Type) []api.Type {
		head, args := Spine(t)
		return append(args, head)
	})
	check("Split", func(t api.Type) []api.Type {
		params, result := Split(app(app(tc("->"), t), t))
		return append(params, result)
	})
	check("Subst", func(t api.Type) []api.Type {
		return Subst([]api.Binding{{Name: "a", Type: t}}, app(t, a, a)).Kids
	})
	check("Subst", func(t api.Type) []api.Type { return []api.Type{Subst(nil, t)} })
}
