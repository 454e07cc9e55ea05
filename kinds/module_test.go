package kinds_test

import (
	"reflect"
	"strings"
	"testing"

	"lazyc/api"
	"lazyc/kinds"
	"lazyc/trees"
	"lazyc/types"
)

// sig returns a kernel expression with a signature.
func sig(t *testing.T, scheme string) api.Kernel {
	t.Helper()
	return api.Kernel{Op: api.KSig, Kids: []api.Kernel{{Op: api.KInt}}, Sigs: []api.Scheme{parsedScheme(t, scheme)}}
}

// bind returns a binding with a body and signatures.
func bind(t *testing.T, name string, body api.Kernel, schemes ...string) api.KBind {
	t.Helper()
	b := api.KBind{Name: name, Body: body}
	for _, scheme := range schemes {
		b.Sigs = append(b.Sigs, parsedScheme(t, scheme))
	}
	return b
}

// values returns signatures that are written as names and schemes, in turn.
func values(t *testing.T, texts ...string) []api.Sig {
	t.Helper()
	var l []api.Sig
	for i := 0; i < len(texts); i += 2 {
		l = append(l, api.Sig{Name: texts[i], Scheme: parsedScheme(t, texts[i+1])})
	}
	return l
}

// everywhere is a kernel expression with signatures in all places, in the order of kernel.All.
func everywhere(t *testing.T, schemes []string) api.Kernel {
	t.Helper()
	s := func(i int) api.Kernel { return sig(t, schemes[i]) }
	nested := s(5)
	nested.Kids[0] = s(6)
	return api.Kernel{
		Op: api.KLet,
		Binds: []api.KBind{
			bind(t, "x", api.Kernel{Op: api.KLam, Name: "v", Kids: []api.Kernel{s(1)}}, schemes[0]),
			bind(t, "y", s(3), schemes[2]),
		},
		Kids: []api.Kernel{{
			Op:   api.KCase,
			Kids: []api.Kernel{{Op: api.KApp, Kids: []api.Kernel{s(4), nested}}},
			Alts: []api.KAlt{{Op: api.AltInt, Body: s(7)}, {Op: api.AltDefault, Body: s(8)}},
		}},
	}
}

const places = 9 // of signatures in everywhere

// schemesOf returns the text of all schemes that expressions and bindings of a module have, in order.
func schemesOf(k api.KModule) string {
	var texts []string
	note := func(list []api.Scheme) {
		for _, s := range list {
			texts = append(texts, types.PrintScheme(s))
		}
	}
	var visit func(e api.Kernel)
	binds := func(list []api.KBind) {
		for _, b := range list {
			note(b.Sigs)
			visit(b.Body)
		}
	}
	visit = func(e api.Kernel) {
		note(e.Sigs)
		binds(e.Binds)
		for _, kid := range e.Kids {
			visit(kid)
		}
		for _, a := range e.Alts {
			visit(a.Body)
		}
	}
	binds(k.Binds)
	for _, i := range k.Insts {
		binds(i.Binds)
	}
	for _, d := range k.Defaults {
		binds([]api.KBind{d.Bind})
	}
	return strings.Join(texts, "; ")
}

// P17.5: everything that a module declares gets its kinds, from the module itself and from what it imports.
func TestModule(t *testing.T) {
	scheme := "forall f a. F f => T f a -> f Int"
	all := everywhere(t, strings.Split(strings.Repeat(scheme+";", places), ";"))
	k := api.KModule{
		Name:    "M",
		Exports: []api.Export{{Name: "T", Subs: []string{"A"}}},
		Env: api.Env{
			Datas:    datas(t, "T f a = A (f a) | B (U f)", "U f = C (P f)"),
			Classes:  []api.Class{class(t, "D f : G", "forall a. f a"), class(t, "G f", "forall a. E a => f a -> Int")},
			Insts:    []api.Inst{inst(t, "D", "forall f. F f => T f"), inst(t, "E", "forall f a. T f a")},
			Values:   values(t, "x", scheme, "y", "forall f. P f"),
			Fixities: []api.Fixity{{Name: "+", Prec: 6}},
		},
		Binds:    []api.KBind{bind(t, "x", all, scheme, scheme), bind(t, "y", all)},
		Insts:    []api.KInst{{Inst: inst(t, "D", "forall f. F f => T f"), Binds: []api.KBind{bind(t, "m0", all, scheme)}}},
		Defaults: []api.KDefault{{Class: "G", Bind: bind(t, "m0", all, scheme)}},
	}
	env := classEnv(t)
	env.Datas = []api.Data{{Name: "P", Params: tyVars(t, "(f :: * -> *)")}, {Name: "T"}}
	before := trees.KModule(k)
	result, fault := kinds.Module(env, k)
	if fault != (api.Fault{}) || !reflect.DeepEqual(k, before) {
		t.Fatal(fault)
	}
	wantScheme := "forall (f :: * -> *) a. F f => T f a -> f Int"
	want := strings.TrimSuffix(strings.Repeat(wantScheme+"; ", 4*places+4), "; ")
	if got := schemesOf(result); got != want {
		t.Errorf("the signatures are\n%s, want\n%s", got, want)
	}
	if got, want := kindsOfDatas(result.Env.Datas), "T f :: * -> *, a :: *; U f :: * -> *"; got != want {
		t.Errorf("the kinds of the data types are %s", got)
	}
	if got, want := kindsOfClass(result.Env.Classes[0])+"; "+kindsOfClass(result.Env.Classes[1]), "* -> *; f :: * -> *, a :: *; * -> *; f :: * -> *, a :: *"; got != want {
		t.Errorf("the kinds of the classes are %s", got)
	}
	for i, inst := range append(result.Env.Insts, result.Insts[0].Inst) {
		if got, want := kindsOf(inst.Vars), []string{"f :: * -> *", "f :: * -> *, a :: *", "f :: * -> *"}[i]; got != want {
			t.Errorf("the kinds of instance %d are %s", i, got)
		}
	}
	if got := types.PrintScheme(result.Env.Values[0].Scheme); got != wantScheme || kindsOf(result.Env.Values[1].Scheme.Vars) != "f :: * -> *" {
		t.Errorf("the values have the schemes %v", result.Env.Values)
	}
	if !reflect.DeepEqual(withoutKinds(result), withoutKinds(k)) {
		t.Errorf("%v became %v", k, result)
	}
}

// withoutKinds returns a copy of a module in which all type variables have the kind *.
func withoutKinds(k api.KModule) api.KModule {
	k = trees.KModule(k)
	clearKinds(reflect.ValueOf(&k).Elem())
	return k
}

func clearKinds(v reflect.Value) {
	switch {
	case v.Type() == reflect.TypeFor[api.TyVar]():
		v.FieldByName("Kind").SetZero()
	case v.Kind() == reflect.Struct:
		for i := range v.NumField() {
			clearKinds(v.Field(i))
		}
	case v.Kind() == reflect.Slice:
		for i := range v.Len() {
			clearKinds(v.Index(i))
		}
	}
}

// P17.5: classes come after those that they mention, in groups that are inferred together.
func TestModuleClasses(t *testing.T) {
	for _, c := range []struct {
		classes []api.Class
		want    string
		fault   api.Fault
	}{
		// each one after its superclasses and those in constraints, in whichever order they stand
		{[]api.Class{class(t, "A a : B"), class(t, "B b", "b Int")}, "* -> *; * -> *; b :: * -> *", api.Fault{}},
		{[]api.Class{class(t, "A a", "forall f. B f => a"), class(t, "B b", "b Int")}, "*; a :: *, f :: * -> *; * -> *; b :: * -> *", api.Fault{}},
		{[]api.Class{class(t, "B b", "b Int"), class(t, "A a : B")}, "* -> *; b :: * -> *; * -> *", api.Fault{}},
		// in a group
		{[]api.Class{class(t, "A a : B"), class(t, "B b", "A b => b Int")}, "* -> *; * -> *; b :: * -> *", api.Fault{}},
		{[]api.Class{class(t, "A a : B", "a Int"), class(t, "B b", "A b => Int")}, "* -> *; a :: * -> *; * -> *; b :: * -> *", api.Fault{}},
		{[]api.Class{class(t, "A a : B"), class(t, "B b : A")}, "*; *", api.Fault{}},
		{[]api.Class{class(t, "A a : B", "a"), class(t, "B b : A", "b Int")}, "", api.Fault{Code: api.ErrKind, Name: "A"}},
		{[]api.Class{class(t, "B a : A", "a"), class(t, "A b : B", "b b")}, "", api.Fault{Code: api.ErrKind, Name: "B"}},
		// what is not determined is * for the groups after it
		{[]api.Class{class(t, "A a : B", "a Int"), class(t, "B b")}, "", api.Fault{Code: api.ErrKind, Name: "A"}},
		// the classes of the module come before those of the environment
		{[]api.Class{class(t, "A a : F", "a"), class(t, "F b", "b")}, "*; a :: *; *; b :: *", api.Fault{}},
		{[]api.Class{class(t, "A a : F", "a")}, "", api.Fault{Code: api.ErrKind, Name: "A"}},
		// group by group
		{[]api.Class{class(t, "A a : B", "a a"), class(t, "B b", "b b")}, "", api.Fault{Code: api.ErrKind, Name: "B"}},
		{[]api.Class{class(t, "A a", "a a"), class(t, "B b : A", "X")}, "", api.Fault{Code: api.ErrKind, Name: "A"}},
		{[]api.Class{class(t, "A a : B", "X"), class(t, "B b", "b b")}, "", api.Fault{Code: api.ErrKind, Name: "B"}},
		// the other faults of all classes of a group come before kinds
		{[]api.Class{class(t, "A a : B", "a a"), class(t, "B b : A", "X")}, "", api.Fault{Code: api.ErrScope, Name: "X"}},
		{[]api.Class{class(t, "A a : B", "Y"), class(t, "B b : A", "X")}, "", api.Fault{Code: api.ErrScope, Name: "Y"}},
		{[]api.Class{class(t, "A a : B", "Y"), invalidClass(t, "B b : A")}, "", api.Fault{Code: api.ErrScope, Name: "Y"}},
		{[]api.Class{class(t, "A a : B", "a a"), invalidClass(t, "B b : A")}, "", api.Fault{Code: api.ErrArg}},
		{[]api.Class{class(t, "A a", "Y"), class(t, "B b : Z")}, "", api.Fault{Code: api.ErrScope, Name: "Y"}},
		{[]api.Class{class(t, "A a : B", "Y"), class(t, "B b : Z")}, "", api.Fault{Code: api.ErrScope, Name: "Z"}},
	} {
		env := classEnv(t)
		env.Classes = env.Classes[:4]
		result, fault := kinds.Module(env, api.KModule{Env: api.Env{Classes: c.classes}})
		var texts []string
		for _, class := range result.Env.Classes {
			texts = append(texts, kindsOfClass(class))
		}
		if got := strings.Join(texts, "; "); got != c.want || fault != c.fault {
			t.Errorf("%v: %s and %v, want %s and %v", c.classes, got, fault, c.want, c.fault)
		}
	}
}

// invalidClass returns a class one of whose methods is not valid.
func invalidClass(t *testing.T, text string) api.Class {
	c := class(t, text, "Int")
	c.Methods[0].Scheme.Vars = nil
	return c
}

// P17.5: instances: the type has the kind of the class, the constraints are well kinded, and faults have the name of the instance.
func TestModuleInsts(t *testing.T) {
	for _, c := range []struct {
		class, scheme, want string
		code                api.Errno
	}{
		{"E", "Int", "", api.OK},
		{"F", "[]", "", api.OK},
		{"F", "forall a. (,) a", "a :: *", api.OK},
		{"E", "forall f a. E (f a) => T f a", "f :: * -> *, a :: *", api.OK},
		{"F", "forall f. F f => T f", "f :: * -> *", api.OK},
		{"E", "forall a. (,) a", "", api.ErrKind},
		{"F", "Int", "", api.ErrKind},
		{"F", "forall a. F a => (->) a", "", api.ErrKind},
		{"X", "Int", "", api.ErrScope},
		{"E", "X", "", api.ErrScope},
		{"E", "[a]", "", api.ErrScope},
		{"E", "forall a. X a => [a]", "", api.ErrScope},
		{"E", "forall a. E b => [a]", "", api.ErrScope},
		{"E", "forall a. E Y => [] [a]", "", api.ErrScope},
	} {
		k := api.KModule{Env: api.Env{Datas: datas(t, "T f a = A (f a)"), Insts: []api.Inst{inst(t, c.class, c.scheme)}}}
		want := api.Fault{Code: c.code}
		if c.code != api.OK {
			want.Name = "inst"
		}
		result, fault := kinds.Module(classEnv(t), k)
		if fault != want {
			t.Errorf("%s %s: %v, want %v", c.class, c.scheme, fault, want)
		}
		if fault == (api.Fault{}) && kindsOf(result.Env.Insts[0].Vars) != c.want {
			t.Errorf("%s %s has the kinds %s", c.class, c.scheme, kindsOf(result.Env.Insts[0].Vars))
		}
	}
	for _, bad := range []api.Inst{
		{Name: "inst", Class: "X"},
		{Name: "inst", Class: "X", Type: types.Apply(con("[]"), forall("a", variable("a")))},
		{Name: "inst", Class: "X", Type: con("X"), Preds: []api.Pred{{Class: "E"}}},
	} {
		for _, k := range []api.KModule{{Env: api.Env{Insts: []api.Inst{bad}}}, {Insts: []api.KInst{{Inst: bad}}}} {
			if _, fault := kinds.Module(classEnv(t), k); fault != (api.Fault{Code: api.ErrArg, Name: "inst"}) {
				t.Errorf("%v: %v", bad, fault)
			}
		}
	}
}

// P17.5: the first fault is returned, in the order of the document; those of signatures have the name of their binding.
func TestModuleOrder(t *testing.T) {
	bad := "forall a. a a"
	expr := func(at int) api.Kernel {
		schemes := strings.Split(strings.Repeat("Int;", places), ";")
		schemes[at] = bad
		return everywhere(t, schemes)
	}
	type step struct {
		add  func(k *api.KModule)
		want api.Fault
	}
	steps := []step{
		{func(k *api.KModule) { k.Env.Datas = datas(t, "T = A X") }, api.Fault{Code: api.ErrScope, Name: "X"}},
		{func(k *api.KModule) { k.Env.Classes = []api.Class{class(t, "C a", "a a")} }, api.Fault{Code: api.ErrKind, Name: "C"}},
		{func(k *api.KModule) { k.Env.Insts = []api.Inst{inst(t, "E", "X")} }, api.Fault{Code: api.ErrScope, Name: "inst"}},
		{func(k *api.KModule) { k.Env.Values = values(t, "v", "b") }, api.Fault{Code: api.ErrScope, Name: "v"}},
		{func(k *api.KModule) { k.Binds = []api.KBind{bind(t, "w", expr(0), "Int", bad)} }, api.Fault{Code: api.ErrKind, Name: "w"}},
	}
	names := []string{"x", "", "y", "", "", "", "", "", ""}
	for i, name := range names {
		steps = append(steps, step{func(k *api.KModule) { k.Binds = append(k.Binds, bind(t, "w", expr(i))) }, api.Fault{Code: api.ErrKind, Name: name}})
	}
	one := api.Fault{Code: api.ErrKind, Name: "m"}
	steps = append(steps,
		step{func(k *api.KModule) { k.Insts = []api.KInst{{Inst: inst(t, "E", "[]")}} }, api.Fault{Code: api.ErrKind, Name: "inst"}},
		step{func(k *api.KModule) {
			k.Insts = append(k.Insts, api.KInst{Inst: inst(t, "E", "Int"), Binds: []api.KBind{bind(t, "m", expr(3), "[]")}})
		}, one},
		step{func(k *api.KModule) { k.Defaults = []api.KDefault{{Class: "C", Bind: bind(t, "m", expr(3), "[]")}} }, one},
	)
	for first := range steps {
		var k api.KModule
		for _, s := range steps[first:] {
			s.add(&k)
		}
		result, fault := kinds.Module(classEnv(t), k)
		if fault != steps[first].want || !reflect.DeepEqual(result, api.KModule{}) {
			t.Errorf("step %d: %v, want %v", first, fault, steps[first].want)
		}
	}
}

// P17.5: a signature with a variable that is not in Vars is ErrScope, one that is not valid ErrArg; bodies need not be valid.
func TestModuleSignatures(t *testing.T) {
	broken := api.Kernel{Op: 77, Kids: []api.Kernel{{Op: api.KVar, Sigs: []api.Scheme{{}}}, {Op: api.KSig}}}
	k := api.KModule{Binds: []api.KBind{bind(t, "x", broken, "forall f. f Int")}}
	result, fault := kinds.Module(api.Env{}, k)
	if fault != (api.Fault{}) || types.PrintScheme(result.Binds[0].Sigs[0]) != "forall (f :: * -> *). f Int" {
		t.Error(result, fault)
	}
	for _, c := range []struct {
		scheme api.Scheme
		want   api.Errno
	}{
		{parsedScheme(t, "forall a. a -> b"), api.ErrScope},
		{parsedScheme(t, "forall a. X a => a"), api.ErrScope},
		{parsedScheme(t, "forall a. (forall b. b) -> a"), api.ErrArg},
		{api.Scheme{Vars: []api.TyVar{{Name: "a"}, {Name: "a"}}, Type: variable("a")}, api.ErrArg},
		{api.Scheme{}, api.ErrArg},
	} {
		b := api.KBind{Name: "x", Sigs: []api.Scheme{c.scheme}}
		if _, fault := kinds.Module(api.Env{}, api.KModule{Binds: []api.KBind{b}}); fault != (api.Fault{Code: c.want, Name: "x"}) {
			t.Errorf("%v: %v", c.scheme, fault)
		}
		b = api.KBind{Name: "x", Body: api.Kernel{Op: api.KSig, Sigs: []api.Scheme{parsedScheme(t, "Int"), c.scheme}}}
		if _, fault := kinds.Module(api.Env{}, api.KModule{Binds: []api.KBind{b}}); fault != (api.Fault{Code: c.want}) {
			t.Errorf("%v: %v", c.scheme, fault)
		}
	}
}

// P17.5: Module returns for classes with the same name, too.
func TestModuleEqualClasses(t *testing.T) {
	kinds.Module(classEnv(t), api.KModule{Env: api.Env{Classes: []api.Class{
		class(t, "A a : B", "a Int"), class(t, "A a : A", "a"), class(t, "B a : A", "X"), class(t, "A a : C", "a a"),
	}}})
}
