package kinds_test

import (
	"reflect"
	"strings"
	"testing"

	"lazyc/api"
	"lazyc/kinds"
	"lazyc/types"
)

// kindsOfClass returns the text of the kinds of the parameter, and then of those of the methods.
func kindsOfClass(c api.Class) string {
	texts := []string{types.PrintKind(c.Param.Kind)}
	for _, m := range c.Methods {
		texts = append(texts, kindsOf(m.Scheme.Vars))
	}
	return strings.Join(texts, "; ")
}

// classEnv has the classes E for the kind * and F for * -> *, each with a second one of the same name, and C for * -> *.
func classEnv(t *testing.T) api.Env {
	one := tyVars(t, "a (f :: * -> *)")
	return api.Env{Classes: []api.Class{
		{Name: "E", Param: one[0]}, {Name: "E", Param: one[1]},
		{Name: "F", Param: one[1]}, {Name: "F", Param: one[0]},
		{Name: "C", Param: one[1]},
	}}
}

// P17.3: the kinds of parameters and of the variables of methods.
func TestClass(t *testing.T) {
	for _, c := range []struct {
		text    string
		methods []string
		want    string
	}{
		{"C f", nil, "*"},
		{"C f", []string{"forall a b. f a -> f b"}, "* -> *; f :: * -> *, a :: *, b :: *"},
		{"C a", []string{"a -> a -> Bool"}, "*; a :: *"},
		{"C a", []string{"Int"}, "*; a :: *"},
		{"C f : F", nil, "* -> *"},
		{"C a : E E", nil, "*"},
		{"C a : F", []string{"Int"}, "* -> *; a :: * -> *"},
		// all methods together
		{"C f", []string{"forall g. g f -> Int", "f Int"}, "* -> *; f :: * -> *, g :: (* -> *) -> *; f :: * -> *"},
		{"C f", []string{"f Int", "forall g. g f -> Int"}, "* -> *; f :: * -> *; f :: * -> *, g :: (* -> *) -> *"},
		// the variables of the methods are independent of each other
		{"C a", []string{"forall b. b a", "forall b. b -> a"}, "*; a :: *, b :: * -> *; a :: *, b :: *"},
		// constraints; those of the class itself have the kind of its parameter, whatever the environment says
		{"C a", []string{"forall g. F g => g a"}, "*; a :: *, g :: * -> *"},
		{"C a", []string{"forall g. F g => a"}, "*; a :: *, g :: * -> *"},
		{"C a", []string{"forall b. C b => a -> Int"}, "*; a :: *, b :: *"},
		{"C f", []string{"forall b. C b => b", "forall g. C g => f Int -> Int"}, ""},
		{"C f", []string{"forall g. C g => f Int -> Int"}, "* -> *; f :: * -> *, g :: * -> *"},
		{"C f", []string{"C IO => Int"}, "* -> *; f :: * -> *"},
		{"C f", []string{"(F f, E (f Int)) => Int"}, "* -> *; f :: * -> *"},
		{"C a : C", []string{"a"}, "*; a :: *"},
		// not determined
		{"C a", []string{"forall b c. c b -> Int"}, "*; a :: *, b :: *, c :: * -> *"},
		{"C p", []string{"forall a b. p a b"}, "* -> * -> *; p :: * -> * -> *, a :: *, b :: *"},
	} {
		result, fault := kinds.Class(classEnv(t), class(t, c.text, c.methods...))
		got := kindsOfClass(result)
		if c.want == "" {
			if fault != (api.Fault{Code: api.ErrKind, Name: "C"}) {
				t.Errorf("%s %v has the fault %v", c.text, c.methods, fault)
			}
			continue
		}
		if got != c.want || fault != (api.Fault{}) {
			t.Errorf("%s %v has the kinds %s and the fault %v, want %s", c.text, c.methods, got, fault, c.want)
		}
	}
}

// P17.3: the faults, their order and their names.
func TestClassFaults(t *testing.T) {
	for _, c := range []struct {
		text    string
		methods []string
		want    api.Fault
	}{
		{"C a", []string{"a a"}, api.Fault{Code: api.ErrKind, Name: "C"}},
		{"C a", []string{"IO"}, api.Fault{Code: api.ErrKind, Name: "C"}},
		{"C a", []string{"a", "a Int"}, api.Fault{Code: api.ErrKind, Name: "C"}},
		{"C a : F", []string{"a"}, api.Fault{Code: api.ErrKind, Name: "C"}},
		{"C a : E F", nil, api.Fault{Code: api.ErrKind, Name: "C"}},
		{"C a", []string{"forall b. (E b, F b) => a"}, api.Fault{Code: api.ErrKind, Name: "C"}},
		{"C a", []string{"F a => a"}, api.Fault{Code: api.ErrKind, Name: "C"}},
		{"C a", []string{"C IO => a"}, api.Fault{Code: api.ErrKind, Name: "C"}},
		{"C a : E X Y", []string{"U"}, api.Fault{Code: api.ErrScope, Name: "X"}},
		{"C a", []string{"Z x => U -> y"}, api.Fault{Code: api.ErrScope, Name: "Z"}},
		{"C a", []string{"E x => U -> y"}, api.Fault{Code: api.ErrScope, Name: "x"}},
		{"C a", []string{"(E a, E (T x), Z a) => U -> y"}, api.Fault{Code: api.ErrScope, Name: "T"}},
		{"C a", []string{"E a => y -> U"}, api.Fault{Code: api.ErrScope, Name: "y"}},
		{"C a", []string{"a", "forall b. b", "U -> Z"}, api.Fault{Code: api.ErrScope, Name: "U"}},
		{"C a", []string{"a", "b", "Z a => a"}, api.Fault{Code: api.ErrScope, Name: "b"}},
		{"C a", []string{"a a", "b"}, api.Fault{Code: api.ErrScope, Name: "b"}},
	} {
		result, fault := kinds.Class(classEnv(t), class(t, c.text, c.methods...))
		if fault != c.want || !reflect.DeepEqual(result, api.Class{}) {
			t.Errorf("%s %v has the fault %v, want %v", c.text, c.methods, fault, c.want)
		}
	}
}

// P17.3: ErrArg comes first: for types with quantifications, types that are not well formed, and methods without the parameter as their first variable.
func TestClassInvalid(t *testing.T) {
	for i, change := range []func(s *api.Scheme){
		func(s *api.Scheme) { s.Type = forall("b", variable("b")) },
		func(s *api.Scheme) { s.Type = types.Fun(con("Int"), forall("b", variable("b"))) },
		func(s *api.Scheme) { s.Type = api.Type{} },
		func(s *api.Scheme) { s.Preds[0].Type = variable("A") },
		func(s *api.Scheme) {
			s.Preds = append(s.Preds, api.Pred{Class: "E", Type: forall("b", variable("b"))})
		},
		func(s *api.Scheme) { s.Vars = nil },
		func(s *api.Scheme) { s.Vars = s.Vars[1:] },
		func(s *api.Scheme) { s.Vars[0], s.Vars[1] = s.Vars[1], s.Vars[0] },
		func(s *api.Scheme) { s.Vars[0].Name = "c" },
	} {
		c := class(t, "C a : X", "U", "forall b. a -> b", "a a")
		change(&c.Methods[1].Scheme)
		if result, fault := kinds.Class(classEnv(t), c); fault != (api.Fault{Code: api.ErrArg}) || !reflect.DeepEqual(result, api.Class{}) {
			t.Errorf("%d: %v", i, fault)
		}
	}
}

// P17.3: of several variables of a method with one name the last one counts in its types; the first one has the parameter's kind, and others *.
func TestClassEqualVars(t *testing.T) {
	c := class(t, "C f : F", "f Int")
	s := &c.Methods[0].Scheme
	s.Preds = nil
	s.Vars = []api.TyVar{{Name: "f"}, {Name: "f"}, {Name: "f"}}
	s.Type = parsed(t, "f Int Int")
	result, fault := kinds.Class(classEnv(t), c)
	if got, want := kindsOfClass(result), "* -> *; f :: * -> *, f :: *, f :: * -> * -> *"; got != want || fault != (api.Fault{}) {
		t.Errorf("the kinds are %s, want %s; %v", got, want, fault)
	}
}

// P17.3: kinds that are too large, or would contain themselves.
func TestClassLimits(t *testing.T) {
	for _, c := range []struct {
		kind api.Kind
		want api.Errno
	}{
		{nested(api.MaxDepth), api.OK},
		{nested(api.MaxDepth + 1), api.ErrKind},
		{wide(api.MaxSize), api.OK},
		{wide(api.MaxSize + 1), api.ErrKind},
	} {
		env := api.Env{Classes: []api.Class{{Name: "S", Param: api.TyVar{Name: "a", Kind: c.kind}}}}
		result, fault := kinds.Class(env, class(t, "C a : S"))
		if fault.Code != c.want || c.want == api.OK && !types.SameKind(result.Param.Kind, c.kind) {
			t.Error(fault)
		}
		// the kind of a variable of a method
		if _, fault := kinds.Class(env, class(t, "C a", "forall b. S b => a")); fault.Code != c.want {
			t.Error(fault)
		}
	}
	if _, fault := kinds.Class(api.Env{}, class(t, "C a", "forall b. a b -> b a")); fault != (api.Fault{Code: api.ErrKind, Name: "C"}) {
		t.Error(fault)
	}
}

// P17.3: everything but the kinds is as it was, in new memory; the kinds that there were are ignored.
func TestClassKeepsTheRest(t *testing.T) {
	build := func() api.Class {
		c := class(t, "C f : F", "forall a. F f => f a")
		c.Defaults = []string{"m0"}
		return c
	}
	c, want := build(), build()
	c.Param.Kind = nested(3)
	c.Methods[0].Scheme.Vars[0].Kind = nested(4)
	c.Methods[0].Scheme.Vars[1].Kind = nested(5)
	want.Param.Kind = nested(2)
	want.Methods[0].Scheme.Vars[0].Kind = nested(2)
	result, fault := kinds.Class(classEnv(t), c)
	if fault != (api.Fault{}) || !reflect.DeepEqual(result, want) {
		t.Errorf("%v, want %v; %v", result, want, fault)
	}
	result.Supers[0], result.Defaults[0] = "X", "X"
	result.Methods[0].Scheme.Preds[1].Class = "X"
	if c.Supers[0] != "F" || c.Defaults[0] != "m0" || c.Methods[0].Scheme.Preds[1].Class != "F" || !types.SameKind(c.Param.Kind, nested(3)) {
		t.Error("the argument has changed")
	}
}

// P17.4: the kinds of the variables of schemes.
func TestScheme(t *testing.T) {
	for _, c := range []struct{ text, want string }{
		{"Int", ""},
		{"forall a. a -> a", "a :: *"},
		{"forall f a. f a -> f Int", "f :: * -> *, a :: *"},
		{"forall f g a. f (g a) -> f g -> a", ""},
		{"forall f g a. f g -> g a", "f :: (* -> *) -> *, g :: * -> *, a :: *"},
		{"forall a b. Int", "a :: *, b :: *"},
		{"forall f. F f => Int", "f :: * -> *"},
		{"forall f. (E (f Int), F f) => Int", "f :: * -> *"},
		{"forall f a. E (f a) => Int", "f :: * -> *, a :: *"},
		{"forall f a. F (f a) => Int", "f :: * -> * -> *, a :: *"},
		{"forall t m a. t m a -> m a", "t :: (* -> *) -> * -> *, m :: * -> *, a :: *"},
	} {
		s := parsedScheme(t, c.text)
		result, fault := kinds.Scheme(classEnv(t), s)
		if got := kindsOf(result.Vars); got != c.want && c.want != "" {
			t.Errorf("%s has the kinds %s and the fault %v, want %s", c.text, got, fault, c.want)
		}
		if (fault == api.Fault{}) != (c.want != "" || len(s.Vars) == 0) {
			t.Errorf("%s has the fault %v", c.text, fault)
		}
	}
}

// P17.4: the faults, their order and their names.
func TestSchemeFaults(t *testing.T) {
	for _, c := range []struct {
		text string
		want api.Fault
	}{
		{"[]", api.Fault{Code: api.ErrKind}},
		{"forall a. a a", api.Fault{Code: api.ErrKind}},
		{"forall a. a Int -> a", api.Fault{Code: api.ErrKind}},
		{"forall a. F a => a", api.Fault{Code: api.ErrKind}},
		{"forall a. (E a, F a) => Int", api.Fault{Code: api.ErrKind}},
		{"F Int => Int", api.Fault{Code: api.ErrKind}},
		{"forall a. a b", api.Fault{Code: api.ErrScope, Name: "b"}},
		{"a -> b", api.Fault{Code: api.ErrScope, Name: "a"}},
		{"E b => a a", api.Fault{Code: api.ErrScope, Name: "b"}},
		{"forall a. (E a, X c) => T", api.Fault{Code: api.ErrScope, Name: "X"}},
		{"forall a. (E (T c), X c) => a", api.Fault{Code: api.ErrScope, Name: "T"}},
		{"forall a. E a => a a -> T", api.Fault{Code: api.ErrScope, Name: "T"}},
	} {
		s := parsedScheme(t, c.text)
		result, fault := kinds.Scheme(classEnv(t), s)
		if fault != c.want || !reflect.DeepEqual(result, api.Scheme{}) {
			t.Errorf("%s has the fault %v, want %v", c.text, fault, c.want)
		}
	}
	a := []api.TyVar{{Name: "a"}}
	for _, bad := range []api.Scheme{
		{},
		{Vars: []api.TyVar{{Name: "a"}, {Name: "b"}, {Name: "a"}}, Type: con("T")},
		{Vars: a, Type: forall("b", variable("a"))},
		{Vars: a, Type: types.Apply(con("T"), forall("b", variable("a")))},
		{Vars: a, Type: con("a")},
		{Vars: a, Preds: []api.Pred{{Class: "X", Type: forall("b", variable("a"))}}, Type: con("Int")},
		{Vars: a, Preds: []api.Pred{{Class: "X", Type: variable("b")}, {Class: "X"}}, Type: con("Int")},
	} {
		if result, fault := kinds.Scheme(classEnv(t), bad); fault != (api.Fault{Code: api.ErrArg}) || !reflect.DeepEqual(result, api.Scheme{}) {
			t.Errorf("%v has the fault %v", bad, fault)
		}
	}
}

// P17.4: limits of the kinds, and what is kept.
func TestSchemeKeepsTheRest(t *testing.T) {
	s := parsedScheme(t, "forall (f :: *) (a :: * -> *) b. (F f, E a) => f a -> b")
	want := parsedScheme(t, "forall (f :: * -> *) a b. (F f, E a) => f a -> b")
	result, fault := kinds.Scheme(classEnv(t), s)
	if fault != (api.Fault{}) || types.PrintScheme(result) != types.PrintScheme(want) {
		t.Error(types.PrintScheme(result), fault)
	}
	result.Preds[0].Class = "X"
	result.Type.Kids[0] = con("Int")
	if types.PrintScheme(s) != "forall f (a :: * -> *) b. (F f, E a) => f a -> b" {
		t.Error("the argument has changed")
	}
	for depth, want := range map[int]api.Errno{api.MaxDepth - 1: api.OK, api.MaxDepth: api.ErrKind} {
		env := api.Env{Datas: []api.Data{{Name: "T", Params: []api.TyVar{{Name: "a", Kind: nested(depth)}}}}}
		if _, fault := kinds.Scheme(env, parsedScheme(t, "forall f a. f a T -> T a")); fault.Code != api.ErrKind {
			t.Error(fault) // f would be nested deeper than T
		}
		if _, fault := kinds.Scheme(env, parsedScheme(t, "forall f a. f a -> T a")); fault.Code != want {
			t.Errorf("%d: %v", depth, fault)
		}
	}
}
