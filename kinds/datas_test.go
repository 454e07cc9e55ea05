package kinds_test

import (
	"reflect"
	"slices"
	"strconv"
	"strings"
	"testing"

	"lazyc/api"
	"lazyc/kinds"
	"lazyc/types"
)

// dataEnv has some types whose parameters have other kinds than *, one of them twice, and one with the name of a built-in type.
func dataEnv(t *testing.T) api.Env {
	return api.Env{Datas: []api.Data{
		{Name: "F", Params: tyVars(t, "(f :: (* -> *) -> *)")},
		{Name: "F", Params: tyVars(t, "a")},
		{Name: "A", Params: tyVars(t, "(f :: * -> *)")},
		{Name: "IO", Params: tyVars(t, "(f :: * -> *)")},
	}}
}

// P17.2: the kinds of parameters.
func TestDatas(t *testing.T) {
	for _, c := range []struct{ texts, want string }{
		{"Fix f = In (f (Fix f))", "Fix f :: * -> *"},
		{"T f a = MkT (f a)", "T f :: * -> *, a :: *"},
		{"T a b", "T a :: *, b :: *"},
		{"T a b = A | B b | C", "T a :: *, b :: *"},
		{"T", "T "},
		{"T f g = A (f g) (g Int)", "T f :: (* -> *) -> *, g :: * -> *"},
		{"T f a b = A (f a b)", "T f :: * -> * -> *, a :: *, b :: *"},
		{"T f g = A (f (g Int) g)", "T f :: * -> (* -> *) -> *, g :: * -> *"},
		// the first element of the environment with a name counts, before what is built in
		{"T f = B (F f)", "T f :: (* -> *) -> *"},
		{"T f = B (IO f)", "T f :: * -> *"},
		// the declared ones come before both
		{"A a = A a; T a = T (A a)", "A a :: *; T a :: *"},
		{"Int f = A (f (Int IO)) ; T = T (Int (->)) (F Int)", ""},
		{"Int f = A (f Char); T = T (Int [])", "Int f :: * -> *; T "},
		// the order of the declarations does not matter for what they refer to
		{"T a = A (P a); P f = P (f Char)", "T a :: * -> *; P f :: * -> *"},
		{"P f = P (f Char); T a = A (P a)", "P f :: * -> *; T a :: * -> *"},
		{"T = A (P Int); P a", "T ; P a :: *"},
		// within a group kinds are inferred together
		{"T f = A (f Int) (U f); U g = B (T g)", "T f :: * -> *; U g :: * -> *"},
		{"U g = B (T g); T f = A (f Int) (U f)", "U g :: * -> *; T f :: * -> *"},
		{"T f = A (U f); U g = B (T g)", "T f :: *; U g :: *"},
		{"T a = A (U []); U g = B (T Int)", "T a :: *; U g :: * -> *"},
		// not determined inside of a kind, and in the place of a parameter
		{"T f a = A (f a (U f)); U g = B (T g Int)", "T f :: * -> * -> *, a :: *; U g :: * -> * -> *"},
		{"T f a = A (f a (U f))", ""},
	} {
		l := datas(t, strings.Split(c.texts, ";")...)
		result, fault := kinds.Datas(dataEnv(t), l)
		got := kindsOfDatas(result)
		if c.want == "" {
			if fault == (api.Fault{}) {
				t.Errorf("%s has the kinds %s", c.texts, got)
			}
			continue
		}
		if got != c.want || fault != (api.Fault{}) {
			t.Errorf("%s has the kinds %s and the fault %v, want %s", c.texts, got, fault, c.want)
		}
	}
}

// P17.2: the faults, their order and their names.
func TestDatasFaults(t *testing.T) {
	for _, c := range []struct {
		texts string
		want  api.Fault
	}{
		{"T a = MkT (a a)", api.Fault{Code: api.ErrKind, Name: "T"}},
		{"T = A Int; U f = A (f IO) (f Int); V = B []", api.Fault{Code: api.ErrKind, Name: "U"}},
		{"U = A Int IO", api.Fault{Code: api.ErrKind, Name: "U"}},
		{"T = A (Int Int)", api.Fault{Code: api.ErrKind, Name: "T"}},
		// what is not determined is * for the types after it
		{"T = A (P []); P a", api.Fault{Code: api.ErrKind, Name: "T"}},
		{"T f = A (f Int) (P f); P a = P (a -> a)", api.Fault{Code: api.ErrKind, Name: "T"}},
		// the first one of a group, whichever contains the fault
		{"T f = A (U f); U g = B (T g) (g g)", api.Fault{Code: api.ErrKind, Name: "T"}},
		{"A = A; U g = B (T g) (g g); T f = A (U f)", api.Fault{Code: api.ErrKind, Name: "U"}},
		// group by group, where a group comes after those to which it refers
		{"T f = A (f f) (U f); U g = B (g g)", api.Fault{Code: api.ErrKind, Name: "U"}},
		{"T f = A (f f); U g = B (g g)", api.Fault{Code: api.ErrKind, Name: "T"}},
		{"T = A b", api.Fault{Code: api.ErrScope, Name: "b"}},
		{"T = A S", api.Fault{Code: api.ErrScope, Name: "S"}},
		{"T a = A a (IO (b C)) | B D", api.Fault{Code: api.ErrScope, Name: "b"}},
		{"T a = A a | B (C b)", api.Fault{Code: api.ErrScope, Name: "C"}},
		{"T a = A (a a); U = A a", api.Fault{Code: api.ErrScope, Name: "a"}},
		{"T b = A U; U = A b", api.Fault{Code: api.ErrScope, Name: "b"}},
		{"T = A b; T", api.Fault{Code: api.ErrTwice, Name: "T"}},
		{"T; U; V; U; T", api.Fault{Code: api.ErrTwice, Name: "U"}},
	} {
		result, fault := kinds.Datas(api.Env{}, datas(t, strings.Split(c.texts, ";")...))
		if fault != c.want || result != nil {
			t.Errorf("%s has the fault %v, want %v", c.texts, fault, c.want)
		}
	}
}

// P17.2: a field with a quantification, and one that is not well formed, or makes the type of the constructor so, is ErrArg, before everything else.
func TestDatasInvalid(t *testing.T) {
	many := slices.Repeat([]api.Type{con("Int")}, api.MaxDepth)
	var params []api.TyVar
	for i := range api.MaxDepth {
		params = append(params, api.TyVar{Name: "a" + strconv.Itoa(i)})
	}
	for _, bad := range []api.Data{
		{Name: "T", Cons: []api.Con{{Name: "A", Fields: []api.Type{{}}}}},
		{Name: "T", Cons: []api.Con{{Name: "A", Fields: []api.Type{variable("A")}}}},
		{Name: "T", Cons: []api.Con{{Name: "A"}, {Name: "B", Fields: []api.Type{con("Int"), forall("a", variable("a"))}}}},
		{Name: "T", Cons: []api.Con{{Name: "A", Fields: []api.Type{types.Apply(con("IO"), forall("a", con("Int")))}}}},
		{Name: "T", Cons: []api.Con{{Name: "A", Fields: many}}},
		{Name: "T", Params: params, Cons: []api.Con{{Name: "A"}}},
		{Name: "t", Cons: []api.Con{{Name: "A"}}},
		{Name: "T", Params: []api.TyVar{{Name: "A"}}, Cons: []api.Con{{Name: "A"}}},
	} {
		l := []api.Data{data(t, "U = A u"), data(t, "U"), bad}
		if result, fault := kinds.Datas(api.Env{}, l); fault != (api.Fault{Code: api.ErrArg}) || result != nil {
			t.Errorf("%v: %v", bad, fault)
		}
	}
	// as large as possible
	good := api.Data{Name: "T", Params: params[:api.MaxDepth-1], Cons: []api.Con{{Name: "A"}}}
	if _, fault := kinds.Datas(api.Env{}, []api.Data{good}); fault != (api.Fault{}) {
		t.Error(fault)
	}
	good = api.Data{Name: "T", Cons: []api.Con{{Name: "A", Fields: many[:api.MaxDepth-2]}}}
	if _, fault := kinds.Datas(api.Env{}, []api.Data{good}); fault != (api.Fault{}) {
		t.Error(fault)
	}
	// without constructors there is nothing to examine
	good = api.Data{Name: "t", Params: append(params, api.TyVar{Name: "A"})}
	if result, fault := kinds.Datas(api.Env{}, []api.Data{good}); fault != (api.Fault{}) || len(result[0].Params) != api.MaxDepth+1 {
		t.Error(fault)
	}
}

// P17.2: of several parameters with one name the last one counts in the fields; the kind of another one can still be found from the uses of the type.
func TestDatasEqualParams(t *testing.T) {
	for _, c := range []struct{ texts, want string }{
		{"T f f = A (f Int)", "T f :: *, f :: * -> *"},
		{"T f f = A (f Int) (T [] f)", "T f :: * -> *, f :: * -> *"},
		{"T f a f = A (f a)", "T f :: *, a :: *, f :: * -> *"},
	} {
		if got := kindsOfDatas(inferredDatas(t, api.Env{}, datas(t, c.texts))); got != c.want {
			t.Errorf("%s has the kinds %s, want %s", c.texts, got, c.want)
		}
	}
	if _, fault := kinds.Datas(api.Env{}, datas(t, "T f f = A (f Int) (T f Int)")); fault != (api.Fault{Code: api.ErrKind, Name: "T"}) {
		t.Error(fault)
	}
}

// P17.2: everything but the kinds of the parameters is as it was, in new memory; the kinds that there were are ignored.
func TestDatasKeepsTheRest(t *testing.T) {
	l := datas(t, "T f a = A (f a) a | B", "U")
	l[0].Cons[0].Labels = []string{"x", "y"}
	want := datas(t, "T f a = A (f a) a | B", "U")
	want[0].Cons[0].Labels = []string{"x", "y"}
	want[0].Params[0].Kind = parsedKind(t, "* -> *")
	l[0].Params[0].Kind = nested(3)
	l[0].Params[1].Kind = nested(api.MaxDepth + 1)
	got := inferredDatas(t, api.Env{}, l)
	if !reflect.DeepEqual(got, want) {
		t.Errorf("%v, want %v", got, want)
	}
	if !types.SameKind(l[0].Params[0].Kind, nested(3)) {
		t.Error("the argument has changed")
	}
	got[0].Cons[0].Labels[0] = "z"
	got[0].Cons[0].Fields[0] = con("Int")
	if l[0].Cons[0].Labels[0] != "x" || !types.Equal(l[0].Cons[0].Fields[0], parsed(t, "f a")) {
		t.Error("the result shares memory with the argument")
	}
}

// P17.2: a kind of a parameter may be MaxDepth deep and have MaxSize nodes, and not more; that of the type itself may be larger.
func TestDatasLimits(t *testing.T) {
	limited := func(k api.Kind) api.Fault {
		env := api.Env{Datas: []api.Data{{Name: "F", Params: []api.TyVar{{Name: "a", Kind: k}}}}}
		result, fault := kinds.Datas(env, datas(t, "T a b c = A (F a) (F b) (F c)"))
		if fault == (api.Fault{}) && !types.SameKind(result[0].Params[0].Kind, k) {
			t.Error("another kind")
		}
		return fault
	}
	tooLarge := api.Fault{Code: api.ErrKind, Name: "T"}
	for _, c := range []struct {
		name string
		kind api.Kind
		want api.Fault
	}{
		{"deep", nested(api.MaxDepth), api.Fault{}},
		{"too deep", nested(api.MaxDepth + 1), tooLarge},
		{"wide", wide(api.MaxSize), api.Fault{}},
		{"too wide", wide(api.MaxSize + 1), tooLarge},
	} {
		if fault := limited(c.kind); fault != c.want {
			t.Errorf("%s: %v", c.name, fault)
		}
	}
	// T itself is too large for a parameter then
	env := api.Env{Datas: []api.Data{{Name: "F", Params: []api.TyVar{{Name: "a", Kind: nested(api.MaxDepth)}}}}}
	if _, fault := kinds.Datas(env, datas(t, "T a = A (F a)", "U f = U (f T)")); fault != (api.Fault{Code: api.ErrKind, Name: "U"}) {
		t.Error(fault)
	}
}

// doubled returns a data type with parameters a0 to an, b0 to bn and c, where the kind of each of the ai and bi is twice as large as that of the one before, and the last ones must have the same kind.
func doubled(t *testing.T, n int) api.Data {
	t.Helper()
	d := api.Data{Name: "T", Params: []api.TyVar{{Name: "c"}}}
	add := func(field string) {
		d.Cons = append(d.Cons, api.Con{Name: "A", Fields: []api.Type{parsed(t, field)}})
	}
	for _, base := range []string{"a", "b"} {
		for i := range n + 1 {
			d.Params = append(d.Params, api.TyVar{Name: base + strconv.Itoa(i)})
			if i > 0 {
				last := base + strconv.Itoa(i-1)
				add(base + strconv.Itoa(i) + " " + last + " " + last)
			}
		}
		add("c " + base + strconv.Itoa(n))
	}
	return d
}

// P17.2: kinds that are much larger than the types are found, or found to be too large, in little time.
func TestDatasDoubled(t *testing.T) {
	result := inferredDatas(t, api.Env{}, []api.Data{doubled(t, 13)})
	if k := result[0].Params[14].Kind; len(k.Args) != 2 || !types.SameKind(k.Args[0], k.Args[1]) || !types.SameKind(k, result[0].Params[28].Kind) {
		t.Error(len(k.Args))
	}
	for _, n := range []int{14, 40} {
		if _, fault := kinds.Datas(api.Env{}, []api.Data{doubled(t, n)}); fault != (api.Fault{Code: api.ErrKind, Name: "T"}) {
			t.Errorf("%d: %v", n, fault)
		}
	}
}
