package kinds_test

import (
	"testing"

	"lazyc/api"
	"lazyc/kinds"
	"lazyc/types"
)

// tyVars returns variables that are written as in a scheme.
func tyVars(t *testing.T, text string) []api.TyVar {
	t.Helper()
	if text == "" {
		return nil
	}
	var vars []api.TyVar
	for q := parsed(t, "forall "+text+". ()"); q.Op == api.TForall; q = q.Kids[0] {
		vars = append(vars, api.TyVar{Name: q.Name, Kind: q.Bound})
	}
	return vars
}

// P17.1: the kinds of types.
func TestOf(t *testing.T) {
	env := api.Env{Datas: []api.Data{
		{Name: "T", Params: tyVars(t, "(f :: * -> *) a")},
		{Name: "T"},
		{Name: "Int", Params: tyVars(t, "a")},
	}}
	for _, c := range []struct{ vars, text, want string }{
		{"", "[Char]", "*"},
		{"", "[]", "* -> *"},
		{"", "(->)", "* -> * -> *"},
		{"", "(->) Char", "* -> *"},
		{"", "(,,)", "* -> * -> * -> *"},
		{"", "(,,) Char", "* -> * -> *"},
		{"", "T", "(* -> *) -> * -> *"},
		{"", "T []", "* -> *"},
		{"", "T IO Char", "*"},
		{"", "Int", "* -> *"}, // the environment comes before what is built in
		{"(f :: (* -> *) -> * -> *)", "f", "(* -> *) -> * -> *"},
		{"(f :: (* -> *) -> * -> *)", "f []", "* -> *"},
		{"(f :: * -> *) a", "f a -> f a", "*"},
		{"f (f :: * -> *)", "f Char", "*"}, // the last one counts
		{"", "forall (f :: * -> *). f Char", "*"},
		{"", "forall a. [a]", "*"},
		{"(a :: * -> *)", "(forall a. a) -> a Char", "*"}, // a quantification hides a variable in its body only
		{"", "(forall (a :: * -> *). a Char) -> forall a. a", "*"},
		{"(a :: * -> *)", "forall b. forall a. a -> b", "*"},
	} {
		k, code := kinds.Of(env, tyVars(t, c.vars), parsed(t, c.text))
		if got := types.PrintKind(k); got != c.want || code != api.OK {
			t.Errorf("%s has the kind %s and the error %d, want %s", c.text, got, code, c.want)
		}
	}
}

// P17.1: the errors come from the left to the right, after those of the parts.
func TestOfErrors(t *testing.T) {
	for _, c := range []struct {
		vars, text string
		want       api.Errno
	}{
		{"", "a", api.ErrScope},
		{"", "T", api.ErrScope},
		{"a", "a -> b", api.ErrScope},
		{"", "Int Int", api.ErrKind},
		{"", "[[]]", api.ErrKind},
		{"", "(->) IO", api.ErrKind},
		{"a", "a a", api.ErrKind},
		{"(f :: * -> *)", "f f", api.ErrKind},
		{"(f :: (* -> *) -> *)", "f Int", api.ErrKind},
		{"(f :: (* -> *) -> *)", "f (,)", api.ErrKind},
		{"", "forall a. []", api.ErrKind},
		{"", "forall (f :: * -> *). f", api.ErrKind},
		{"", "(forall a. a) -> a", api.ErrScope}, // the variable is known in its quantification only
		{"", "forall a. b", api.ErrScope},
		{"", "Int Int -> a", api.ErrKind},
		{"", "a -> Int Int", api.ErrScope},
		{"", "(Int Int) a", api.ErrKind},
		{"", "Int a", api.ErrScope}, // the faults of the parts come first
		{"", "Int (Int Int)", api.ErrKind},
		{"", "(forall a. IO) -> T", api.ErrKind},
	} {
		k, code := kinds.Of(api.Env{}, tyVars(t, c.vars), parsed(t, c.text))
		if code != c.want || len(k.Args) > 0 {
			t.Errorf("%s has the kind %v and the error %d, want %d", c.text, k, code, c.want)
		}
	}
}

// P17.1: a type that is not valid has no kind, whatever else is wrong with it.
func TestOfInvalid(t *testing.T) {
	deep := variable("a")
	for range api.MaxDepth {
		deep = types.Apply(con("[]"), deep)
	}
	for _, bad := range []api.Type{
		{},
		variable("A"),
		con("a"),
		{Op: api.TApp, Kids: []api.Type{con("Int")}},
		types.Apply(con("Int"), con("Int"), api.Type{}),
		{Op: api.TVar, Name: "a", Kids: []api.Type{con("Int")}},
		{Op: api.TForall, Name: "a", Bound: nested(api.MaxDepth + 1), Kids: []api.Type{con("Int")}},
		deep,
	} {
		if k, code := kinds.Of(api.Env{}, []api.TyVar{{Name: "a"}, {Name: "A"}}, bad); code != api.ErrArg || len(k.Args) > 0 {
			t.Errorf("%v has the kind %v and the error %d", bad, k, code)
		}
	}
}

// P17.1: the kinds of variables and data types may be larger than valid ones, since Of examines only the type.
func TestOfLargeKinds(t *testing.T) {
	large := wide(api.MaxSize + 1)
	deep := nested(api.MaxDepth + 1)
	env := api.Env{Datas: []api.Data{{Name: "T", Params: []api.TyVar{{Kind: large}, {Kind: deep}}}}}
	vars := []api.TyVar{{Name: "a", Kind: large}, {Name: "b", Kind: deep}}
	k, code := kinds.Of(env, vars, parsed(t, "T a b"))
	if code != api.OK || len(k.Args) != 0 {
		t.Error(len(k.Args), code)
	}
	if _, code := kinds.Of(env, vars, parsed(t, "T b")); code != api.ErrKind {
		t.Error(code)
	}
	k, code = kinds.Of(env, vars, con("T"))
	if code != api.OK || len(k.Args) != 2 || !types.SameKind(k.Args[0], large) || !types.SameKind(k.Args[1], deep) {
		t.Error(len(k.Args), code)
	}
}

// Of neither changes nor keeps its arguments.
func TestOfNewMemory(t *testing.T) {
	k := parsedKind(t, "(* -> *) -> *")
	vars := []api.TyVar{{Name: "f", Kind: k}}
	got, _ := kinds.Of(api.Env{}, vars, variable("f"))
	got.Args[0].Args[0] = nested(3)
	if text := kindsOf(vars); text != "f :: (* -> *) -> *" {
		t.Error(text)
	}
}

// A type with many parts that have large kinds takes little time.
func TestOfIsFast(t *testing.T) {
	k := wide(api.MaxSize)
	env := api.Env{Datas: []api.Data{{Name: "F", Params: []api.TyVar{{Kind: k}}}}}
	many := types.Apply(con("F"), variable("f"))
	for range 11 {
		many = types.Fun(many, many)
	}
	if _, code := kinds.Of(env, []api.TyVar{{Name: "f", Kind: k}}, many); code != api.OK {
		t.Error(code)
	}
}
