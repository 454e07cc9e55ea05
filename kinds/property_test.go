package kinds_test

import (
	"math/rand"
	"reflect"
	"slices"
	"strconv"
	"testing"

	"lazyc/api"
	"lazyc/base"
	"lazyc/graph"
	"lazyc/kinds"
	"lazyc/types"
	"lazyc/unify"
)

// randomType returns a type of the given names, most of which has kinds.
func randomType(r *rand.Rand, vars, cons []string, depth int) api.Type {
	if n := r.Intn(len(vars) + len(cons)); depth == 0 || r.Intn(4) == 0 {
		if n < len(vars) {
			return variable(vars[n])
		}
		return con(cons[n-len(vars)])
	}
	if r.Intn(4) == 0 {
		return types.Fun(randomType(r, vars, cons, depth-1), randomType(r, vars, cons, depth-1))
	}
	return types.Apply(randomType(r, vars, cons, depth-1), randomType(r, vars, cons, depth-1))
}

// smallKinds are the kinds that the brute force tries.
func smallKinds(t *testing.T) []api.Kind {
	var l []api.Kind
	for _, text := range []string{"*", "* -> *", "* -> * -> *", "(* -> *) -> *", "(* -> *) -> * -> *"} {
		l = append(l, parsedKind(t, text))
	}
	return l
}

// assignments calls visit with the variables, given each combination of kinds.
func assignments(vars []api.TyVar, kinds []api.Kind, visit func([]api.TyVar)) {
	if len(vars) == 0 {
		visit(nil)
		return
	}
	for _, k := range kinds {
		assignments(vars[1:], kinds, func(rest []api.TyVar) {
			visit(append([]api.TyVar{{Name: vars[0].Name, Kind: k}}, rest...))
		})
	}
}

// isWellKinded reports, by Of alone, whether the kinds of its variables suit a scheme.
func isWellKinded(env api.Env, s api.Scheme) bool {
	k, code := kinds.Of(env, s.Vars, s.Type)
	if code != api.OK || len(k.Args) > 0 {
		return false
	}
	for _, p := range s.Preds {
		i := slices.IndexFunc(env.Classes, func(c api.Class) bool { return c.Name == p.Class })
		if k, code := kinds.Of(env, s.Vars, p.Type); code != api.OK || !types.SameKind(k, env.Classes[i].Param.Kind) {
			return false
		}
	}
	return true
}

// isInstance reports whether a kind is another one with some kinds in place of *.
func isInstance(k, of api.Kind) bool {
	if len(of.Args) == 0 {
		return true
	}
	return len(k.Args) >= len(of.Args) && slices.EqualFunc(k.Args[:len(of.Args)], of.Args, isInstance)
}

// P17.4, P17.6: Scheme finds kinds exactly where there are some; they suit, all others are instances of them, and they are found again.
func TestSchemeByBruteForce(t *testing.T) {
	r := rand.New(rand.NewSource(17))
	env := classEnv(t)
	env.Datas = base.Env().Datas // they are found faster here
	small := smallKinds(t)
	found := 0
	for range 6000 {
		s := api.Scheme{Vars: []api.TyVar{{Name: "a"}, {Name: "f"}, {Name: "g"}}[:1+r.Intn(3)]}
		var names []string
		for _, v := range s.Vars {
			names = append(names, v.Name)
		}
		cons := []string{"Int", "[]", "IO"}
		s.Type = randomType(r, names, cons, r.Intn(4))
		for range r.Intn(3) {
			s.Preds = append(s.Preds, api.Pred{Class: []string{"E", "F"}[r.Intn(2)], Type: randomType(r, names, cons, r.Intn(3))})
		}
		result, fault := kinds.Scheme(env, s)
		if fault == (api.Fault{}) {
			found++
			if !isWellKinded(env, result) {
				t.Fatalf("%s is not well kinded", types.PrintScheme(result))
			}
			if again, fault := kinds.Scheme(env, result); !reflect.DeepEqual(again, result) || fault != (api.Fault{}) {
				t.Fatalf("%s became %s", types.PrintScheme(result), types.PrintScheme(again))
			}
		}
		assignments(s.Vars, small, func(vars []api.TyVar) {
			other := api.Scheme{Vars: vars, Preds: s.Preds, Type: s.Type}
			if !isWellKinded(env, other) {
				return
			}
			if fault != (api.Fault{}) {
				t.Fatalf("%s has the fault %v", types.PrintScheme(other), fault)
			}
			for i, v := range vars {
				if !isInstance(v.Kind, result.Vars[i].Kind) {
					t.Fatalf("%s is less general than %s", types.PrintScheme(result), types.PrintScheme(other))
				}
			}
		})
	}
	if found < 1000 {
		t.Errorf("only %d schemes have kinds", found)
	}
}

// solver infers kinds by the unification of types that stand for them.
type solver struct {
	vars  int
	pairs [][2]api.Type
}

func (s *solver) fresh() api.Type {
	s.vars++
	return variable("k" + strconv.Itoa(s.vars))
}

// kind returns the kind of a type as a type.
func (s *solver) kind(known map[string]api.Type, t api.Type) api.Type {
	if t.Op != api.TApp {
		return known[t.Name]
	}
	function, argument := s.kind(known, t.Kids[0]), s.kind(known, t.Kids[1])
	result := s.fresh()
	s.pairs = append(s.pairs, [2]api.Type{function, types.Fun(result, argument)})
	return result
}

// kindOf returns the kind for which a type stands.
func kindOf(t api.Type) api.Kind {
	var k api.Kind
	params, _ := types.Split(t)
	for _, param := range params {
		k.Args = append(k.Args, kindOf(param))
	}
	return k
}

// solved returns data types with their kinds, group by group, or the name of the first one of a group that has none.
func solved(l []api.Data) ([]api.Data, string) {
	star := con("Star")
	known := map[string]api.Type{"Int": star, "[]": types.Fun(star, star), "IO": types.Fun(star, star), "->": types.Fun(star, star, star)}
	l = slices.Clone(l)
	var numbers []int
	for i := range l {
		numbers = append(numbers, i)
	}
	uses := func(i int) []int {
		var used []int
		for j := range l {
			for _, c := range l[i].Cons {
				if mentions(types.Fun(star, c.Fields...), l[j].Name) {
					used = append(used, j)
				}
			}
		}
		return used
	}
	for _, group := range graph.Group(numbers, uses) {
		var s solver
		params := map[int][]api.Type{}
		for _, i := range group {
			for range l[i].Params {
				params[i] = append(params[i], s.fresh())
			}
			known[l[i].Name] = types.Fun(star, params[i]...)
		}
		for _, i := range group {
			for p, v := range l[i].Params {
				known[v.Name] = params[i][p]
			}
			for _, c := range l[i].Cons {
				for _, field := range c.Fields {
					s.pairs = append(s.pairs, [2]api.Type{s.kind(known, field), star})
				}
			}
		}
		solution, code := unify.All(s.pairs)
		if code != api.OK {
			return nil, l[group[0]].Name
		}
		for _, i := range group {
			l[i].Params = slices.Clone(l[i].Params)
			for p := range l[i].Params {
				l[i].Params[p].Kind = kindOf(types.Subst(solution, params[i][p]))
			}
			settled := types.Subst(solution, known[l[i].Name])
			for _, name := range types.Free(settled) {
				settled = types.Subst([]api.Binding{{Name: name, Type: star}}, settled)
			}
			known[l[i].Name] = settled
		}
	}
	return l, ""
}

func mentions(t api.Type, name string) bool {
	return t.Name == name || slices.ContainsFunc(t.Kids, func(kid api.Type) bool { return mentions(kid, name) })
}

// P17.2, P17.6: Datas finds the kinds that the unification of types finds; they suit, and are found again.
func TestDatasByUnification(t *testing.T) {
	r := rand.New(rand.NewSource(18))
	found, large := 0, 0
	for range 8000 {
		names := []string{"T", "U", "V", "W"}[:1+r.Intn(4)]
		cons := append([]string{"Int", "[]"}, names...)
		var l []api.Data
		for _, name := range names {
			d := api.Data{Name: name}
			var params []string
			for _, param := range []string{"a", "b", "c"}[:r.Intn(4)] {
				d.Params = append(d.Params, api.TyVar{Name: param})
				params = append(params, param)
			}
			for range r.Intn(3) {
				c := api.Con{Name: "C"}
				for range r.Intn(3) {
					c.Fields = append(c.Fields, randomField(r, params, cons))
				}
				d.Cons = append(d.Cons, c)
			}
			l = append(l, d)
		}
		want, name := solved(l)
		got, fault := kinds.Datas(api.Env{}, l)
		if name != "" {
			if fault != (api.Fault{Code: api.ErrKind, Name: name}) {
				t.Fatalf("%v: %v, want a fault of %s", l, fault, name)
			}
			continue
		}
		if fault != (api.Fault{}) || kindsOfDatas(got) != kindsOfDatas(want) {
			t.Fatalf("%v: %v, %s, want %s", l, fault, kindsOfDatas(got), kindsOfDatas(want))
		}
		found++
		if text := kindsOfDatas(got); slices.Contains([]byte(text), '>') {
			large++
		}
		checkFields(t, got)
		if again, fault := kinds.Datas(api.Env{}, got); fault != (api.Fault{}) || !reflect.DeepEqual(again, got) {
			t.Fatalf("%v became %v", got, again)
		}
	}
	if found < 1000 || large < 100 {
		t.Errorf("only %d declarations have kinds, %d of them other ones than *", found, large)
	}
}

// randomField returns a type that more often than not has the kind *.
func randomField(r *rand.Rand, params, cons []string) api.Type {
	all := append(slices.Clone(cons), params...)
	name := all[r.Intn(len(all))]
	t := con(name)
	if slices.Contains(params, name) {
		t = variable(name)
	}
	for range r.Intn(3) {
		t = types.Apply(t, randomType(r, params, cons, r.Intn(2)))
	}
	return t
}

// checkFields reports fields that do not have the kind *.
func checkFields(t *testing.T, l []api.Data) {
	t.Helper()
	for _, d := range l {
		for _, c := range d.Cons {
			for _, field := range c.Fields {
				if k, code := kinds.Of(api.Env{Datas: l}, d.Params, field); code != api.OK || len(k.Args) > 0 {
					t.Errorf("in %s, the field %s has the kind %v: %d", d.Name, types.Print(field), k, code)
				}
			}
		}
	}
}

// All functions return for any arguments.
func TestTotality(t *testing.T) {
	r := rand.New(rand.NewSource(19))
	var kind func(deep int) api.Kind
	kind = func(deep int) api.Kind {
		if deep == 0 {
			return api.Kind{}
		}
		return api.Kind{Args: []api.Kind{kind(deep - 1), kind(r.Intn(deep))}[:r.Intn(3)]}
	}
	var anyType func(deep int) api.Type
	anyType = func(deep int) api.Type {
		t := api.Type{Op: api.TypeOp(r.Intn(6)), Name: []string{"", "a", "f", "T", "[]", "Int"}[r.Intn(6)]}
		if r.Intn(8) == 0 {
			t.Bound = kind(3)
		}
		for range r.Intn(3) {
			if deep > 0 {
				t.Kids = append(t.Kids, anyType(deep-1))
			}
		}
		return t
	}
	vars := func() []api.TyVar {
		var l []api.TyVar
		for range r.Intn(4) {
			l = append(l, api.TyVar{Name: []string{"", "a", "f", "T"}[r.Intn(4)], Kind: kind(3)})
		}
		return l
	}
	scheme := func() api.Scheme {
		s := api.Scheme{Vars: vars(), Type: anyType(2)}
		for range r.Intn(2) {
			s.Preds = append(s.Preds, api.Pred{Class: []string{"C", "D", ""}[r.Intn(3)], Type: anyType(1)})
		}
		return s
	}
	env := func() api.Env {
		var e api.Env
		for range r.Intn(3) {
			e.Datas = append(e.Datas, api.Data{Name: []string{"T", "Int", ""}[r.Intn(3)], Params: vars(), Cons: []api.Con{{Fields: []api.Type{anyType(1)}}}[:r.Intn(2)]})
			e.Classes = append(e.Classes, api.Class{Name: []string{"C", "D", ""}[r.Intn(3)], Param: api.TyVar{Name: "a", Kind: kind(2)}, Supers: []string{"C", "D"}[r.Intn(3):], Methods: []api.Sig{{Scheme: scheme()}}[:r.Intn(2)]})
			e.Insts = append(e.Insts, api.Inst{Class: "C", Vars: vars(), Type: anyType(2)})
			e.Values = append(e.Values, api.Sig{Scheme: scheme()})
		}
		return e
	}
	for range 20000 {
		e := env()
		kinds.Of(e, vars(), anyType(3))
		kinds.Datas(e, env().Datas)
		kinds.Scheme(e, scheme())
		if own := env(); len(own.Classes) > 0 {
			kinds.Class(e, own.Classes[0])
			kinds.Module(e, api.KModule{Env: own, Insts: []api.KInst{{Inst: own.Insts[0]}}})
		}
	}
}
