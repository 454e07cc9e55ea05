package unify_test

import (
	"math/rand"
	"slices"
	"strconv"
	"testing"

	"lazyc/api"
	"lazyc/types"
	"lazyc/unify"
)

// stepwise is the unification of pairs, as the document describes its steps.
func stepwise(list [][2]api.Type) ([]api.Binding, api.Errno) {
	var s []api.Binding
	resolved := func(t api.Type) api.Type {
		for _, b := range s {
			if t.Op == api.TVar && b.Name == t.Name {
				return b.Type
			}
		}
		return t
	}
	for len(list) > 0 {
		a, b := resolved(list[0][0]), resolved(list[0][1])
		list = list[1:]
		if b.Op == api.TVar && a.Op != api.TVar {
			a, b = b, a
		}
		switch {
		case a.Op == api.TVar && a.Name == b.Name && b.Op == api.TVar:
		case a.Op == api.TVar:
			// If a is free in what replaces b, it is also where that is too large.
			for _, name := range types.Free(b) {
				if slices.Contains(types.Free(resolved(variable(name))), a.Name) {
					return nil, api.ErrInfinite
				}
			}
			u := types.Subst(s, b)
			if u.Op == 0 {
				return nil, api.ErrLong
			}
			for i := range s {
				s[i].Type = types.Subst([]api.Binding{{Name: a.Name, Type: u}}, s[i].Type)
				if s[i].Type.Op == 0 {
					return nil, api.ErrLong
				}
			}
			s = append(s, api.Binding{Name: a.Name, Type: u})
		case a.Op == api.TCon && b.Op == api.TCon && a.Name == b.Name:
		case a.Op == api.TApp && b.Op == api.TApp:
			list = append([][2]api.Type{{a.Kids[0], b.Kids[0]}, {a.Kids[1], b.Kids[1]}}, list...)
		default:
			return nil, api.ErrType
		}
	}
	return s, api.OK
}

// randomPairs returns pairs, sometimes such that there is a solution.
func randomPairs(r *rand.Rand) [][2]api.Type {
	vars := 1 + r.Intn(6)
	if r.Intn(3) == 0 {
		s := randomBindings(r, vars, 1)
		t := randomType(r, vars, 3)
		return [][2]api.Type{{t, types.Subst(s, t)}}
	}
	var l [][2]api.Type
	for range 1 + r.Intn(4) {
		l = append(l, [2]api.Type{randomType(r, vars, r.Intn(4)), randomType(r, vars, r.Intn(4))})
	}
	return l
}

// P18.1: All returns what the steps give, and that makes the pairs equal and does not contain what it binds.
func TestAllBySteps(t *testing.T) {
	r := rand.New(rand.NewSource(21))
	count := map[api.Errno]int{}
	for range 30000 {
		l := randomPairs(r)
		want, wantCode := stepwise(l)
		got, code := unify.All(l)
		if code != wantCode || code == api.OK && printed(got) != printed(want) || code != api.OK && got != nil {
			t.Fatalf("%v: %s and %d, want %s and %d", l, printed(got), code, printed(want), wantCode)
		}
		count[code]++
		if code != api.OK {
			continue
		}
		for _, pair := range l {
			if !types.Equal(types.Subst(got, pair[0]), types.Subst(got, pair[1])) {
				t.Fatalf("%s does not make %v equal", printed(got), pair)
			}
		}
		for _, b := range got {
			for _, other := range got {
				if slices.Contains(types.Free(other.Type), b.Name) {
					t.Fatalf("%s contains %s", printed(got), b.Name)
				}
			}
		}
	}
	for _, code := range []api.Errno{api.OK, api.ErrType, api.ErrInfinite} {
		if count[code] < 1000 {
			t.Errorf("only %d results are %d", count[code], code)
		}
	}
}

// P18.1: the steps give the same at the limits, where types become large.
func TestLongBySteps(t *testing.T) {
	r := rand.New(rand.NewSource(22))
	count := map[api.Errno]int{}
	for range 120 {
		var l [][2]api.Type
		for i := range 12 + r.Intn(4) {
			next := variable("v" + strconv.Itoa(i+1))
			double := types.Apply(next, next)
			if r.Intn(15) == 0 {
				double = randomType(r, 20, 3)
			}
			l = append(l, [2]api.Type{variable("v" + strconv.Itoa(i)), double})
		}
		r.Shuffle(len(l), func(i, j int) {
			if r.Intn(3) == 0 {
				l[i], l[j] = l[j], l[i]
			}
		})
		want, wantCode := stepwise(l)
		got, code := unify.All(l)
		if code != wantCode || code == api.OK && printed(got) != printed(want) {
			t.Fatalf("%v: %d, want %d", l, code, wantCode)
		}
		count[code]++
	}
	if count[api.OK] < 10 || count[api.ErrLong] < 10 {
		t.Error(count)
	}
}

// P18.2: a substitution that makes the pairs equal is one that is applied after the result.
func TestGenerality(t *testing.T) {
	r := rand.New(rand.NewSource(23))
	for range 10000 {
		const vars = 6
		s := randomBindings(r, vars, 2)
		var l [][2]api.Type
		for range 1 + r.Intn(3) {
			t := randomType(r, vars, 3)
			l = append(l, [2]api.Type{disguised(r, s, t), disguised(r, s, t)})
		}
		// s makes the pairs equal only if it leaves what it has replaced as it is.
		if slices.ContainsFunc(l, func(p [2]api.Type) bool { return !types.Equal(types.Subst(s, p[0]), types.Subst(s, p[1])) }) {
			t.Fatalf("%v is not solved", l)
		}
		got, code := unify.All(l)
		if code != api.OK {
			t.Fatalf("%v: %d", l, code)
		}
		for i := range vars {
			v := variable("v" + strconv.Itoa(i))
			if after, alone := types.Subst(s, types.Subst(got, v)), types.Subst(s, v); !types.Equal(after, alone) {
				t.Fatalf("%v: %s instead of %s", l, types.Print(after), types.Print(alone))
			}
		}
	}
}

// disguised returns a type that s makes equal to what it makes of t: some variables are replaced already by types that s does not change.
func disguised(r *rand.Rand, s []api.Binding, t api.Type) api.Type {
	switch t.Op {
	case api.TApp:
		return types.Apply(disguised(r, s, t.Kids[0]), disguised(r, s, t.Kids[1]))
	case api.TVar:
		by := types.Subst(s, t)
		for _, b := range s {
			// another variable with the same type
			if types.Equal(b.Type, by) && r.Intn(2) == 0 {
				return variable(b.Name)
			}
		}
		if types.Equal(types.Subst(s, by), by) && r.Intn(2) == 0 {
			return by
		}
	}
	return t
}

// P18.3: the result of Match makes the pattern equal to the type, and binds exactly its variables; without one no substitution does.
func TestMatching(t *testing.T) {
	r := rand.New(rand.NewSource(24))
	failed := 0
	for range 20000 {
		pattern := randomType(r, 4, 3)
		s := randomBindings(r, 4, 2)
		to := types.Subst(s, pattern)
		got, code := unify.Match(pattern, to)
		if code != api.OK || len(got) != len(types.Free(pattern)) {
			t.Fatalf("%s and %s: %v and %d", types.Print(pattern), types.Print(to), got, code)
		}
		for i, name := range types.Free(pattern) {
			if got[i].Name != name || !types.Equal(got[i].Type, types.Subst(s, variable(name))) {
				t.Fatalf("%s and %s: %s", types.Print(pattern), types.Print(to), printed(got))
			}
		}
		other := randomType(r, 4, 3)
		got, code = unify.Match(pattern, other)
		if code == api.OK && !types.Equal(types.Subst(got, pattern), other) {
			t.Fatalf("%s and %s: %s", types.Print(pattern), types.Print(other), printed(got))
		}
		if code == api.OK {
			continue
		}
		failed++
		// With the variables of the type in place of constants, unification would find a substitution, if there were one.
		if _, solved := unify.Unify(pattern, constants(other)); code != api.ErrType || solved == api.OK {
			t.Fatalf("%s and %s: %d", types.Print(pattern), types.Print(other), code)
		}
	}
	if failed < 1000 {
		t.Error(failed)
	}
}

// constants returns a type with constructors in place of its variables.
func constants(t api.Type) api.Type {
	var s []api.Binding
	for _, name := range types.Free(t) {
		s = append(s, api.Binding{Name: name, Type: con("V" + name[1:])})
	}
	return types.Subst(s, t)
}

// P18.4: applying a composition is applying first, and then second.
func TestComposition(t *testing.T) {
	r := rand.New(rand.NewSource(25))
	for range 10000 {
		pick := func() []api.Binding {
			l := randomBindings(r, 5, 2)
			l = append(l, randomBindings(r, 5, 1)...)
			r.Shuffle(len(l), func(i, j int) { l[i], l[j] = l[j], l[i] })
			if r.Intn(3) == 0 {
				l = append(l, api.Binding{Name: "v9", Type: forall("v1", randomType(r, 3, 2))})
			}
			return l[r.Intn(len(l)):]
		}
		second, first := pick(), pick()
		on := types.Apply(randomType(r, 6, 3), variable("v9"), forall("v2", randomType(r, 5, 2)))
		want := types.Subst(second, types.Subst(first, on))
		composed := unify.Compose(second, first)
		if got := types.Subst(composed, on); !types.Equal(got, want) {
			t.Fatalf("%s after %s is %s: %s instead of %s", printed(second), printed(first), printed(composed), types.Print(got), types.Print(want))
		}
		var names []string
		for _, b := range append(slices.Clone(first), second...) {
			if !slices.Contains(names, b.Name) {
				names = append(names, b.Name)
			}
		}
		if !slices.EqualFunc(composed, names, func(b api.Binding, name string) bool { return b.Name == name }) {
			t.Fatalf("%s after %s is %s", printed(second), printed(first), printed(composed))
		}
	}
}

// P18.5: being a variant is an equivalence, and means to match in both directions.
func TestVariants(t *testing.T) {
	r := rand.New(rand.NewSource(26))
	variants := 0
	for range 20000 {
		a, b, c := randomType(r, 3, 2), randomType(r, 3, 2), randomType(r, 3, 2)
		names := r.Perm(5)
		var s []api.Binding
		for i := range 3 {
			s = append(s, api.Binding{Name: "v" + strconv.Itoa(i), Type: variable("v" + strconv.Itoa(names[i]))})
		}
		if renamed := types.Subst(s, a); !unify.Variant(a, a) || !unify.Variant(a, renamed) || !unify.Variant(renamed, a) {
			t.Fatalf("%s is no variant of %s", types.Print(a), types.Print(renamed))
		}
		_, to := unify.Match(a, b)
		_, from := unify.Match(b, a)
		got := unify.Variant(a, b)
		if got != (to == api.OK && from == api.OK) || got != unify.Variant(b, a) {
			t.Fatalf("%s and %s: %t", types.Print(a), types.Print(b), got)
		}
		if got && unify.Variant(b, c) && !unify.Variant(a, c) {
			t.Fatalf("%s, %s and %s", types.Print(a), types.Print(b), types.Print(c))
		}
		if got {
			variants++
		}
	}
	if variants < 300 {
		t.Error(variants)
	}
}
