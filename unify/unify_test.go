package unify_test

import (
	"math/rand"
	"reflect"
	"slices"
	"strconv"
	"strings"
	"testing"

	"lazyc/api"
	"lazyc/types"
	"lazyc/unify"
)

// P18.1: the substitutions and errors of the unification.
func TestAll(t *testing.T) {
	for _, c := range []struct {
		pairs, want string
		code        api.Errno
	}{
		{"", "", api.OK},
		{"a = a", "", api.OK},
		{"Int = Int", "", api.OK},
		{"a = b", "a = b", api.OK},
		{"Int = a", "a = Int", api.OK},
		{"a -> Int = Bool -> b", "a = Bool; b = Int", api.OK},
		{"(a, b) = (b, Int)", "a = Int; b = Int", api.OK},
		{"a = [b]; a = [Int]", "a = [Int]; b = Int", api.OK},
		{"a = b; b = a", "a = b", api.OK},
		{"a = b; b = c; c = a", "a = c; b = c", api.OK},
		{"f a = T b Int", "f = T b; a = Int", api.OK},
		{"f a = g b", "f = g; a = b", api.OK},
		{"a = b; c = a; b = Int", "a = Int; c = Int; b = Int", api.OK},
		// first the function, then the argument, and these before the pairs behind
		{"f a b = T Int Bool; c = d", "f = T; a = Int; b = Bool; c = d", api.OK},
		{"(a, b) -> c = (b, Int) -> a; c = d", "a = Int; b = Int; c = Int; d = Int", api.OK},
		{"Int = Bool", "", api.ErrType},
		{"Int = [a]", "", api.ErrType},
		{"a -> b = [a]", "", api.ErrType},
		{"[] = (->)", "", api.ErrType},
		{"a = Int; a = Bool", "", api.ErrType},
		{"a = b; a = Int; b = [c]", "", api.ErrType},
		{"a = [a]", "", api.ErrInfinite},
		{"[a] = a", "", api.ErrInfinite},
		{"a = [b]; b = [a]", "", api.ErrInfinite},
		{"(a, b) = ([b], [a])", "", api.ErrInfinite},
		{"a = b; b = [a]", "", api.ErrInfinite},
		{"a = a b", "", api.ErrInfinite},
		// the first error in the order of the steps
		{"Int = Bool; a = [a]", "", api.ErrType},
		{"a = [a]; Int = Bool", "", api.ErrInfinite},
		{"(a, Int) = ([a], Bool)", "", api.ErrInfinite},
	} {
		l, code := unify.All(pairs(t, c.pairs))
		if got := printed(l); got != c.want || code != c.code {
			t.Errorf("%s gives %s and %d, want %s and %d", c.pairs, got, code, c.want, c.code)
		}
	}
}

// Unify is All of one pair.
func TestUnify(t *testing.T) {
	for _, c := range []struct {
		a, b, want string
		code       api.Errno
	}{
		{"a -> Int", "Bool -> b", "a = Bool; b = Int", api.OK},
		{"a", "a", "", api.OK},
		{"a", "[a]", "", api.ErrInfinite},
		{"Int", "Bool", "", api.ErrType},
		{"(a, b)", "(b, Int)", "a = Int; b = Int", api.OK},
	} {
		l, code := unify.Unify(parsed(t, c.a), parsed(t, c.b))
		if got := printed(l); got != c.want || code != c.code {
			t.Errorf("%s and %s give %s and %d", c.a, c.b, got, code)
		}
	}
}

// A type that is not simple is ErrArg, whatever is wrong with the other pairs.
func TestNotSimple(t *testing.T) {
	for i, bad := range notSimple() {
		good := con("Int")
		for _, pair := range [][2]api.Type{{good, bad}, {bad, good}, {bad, bad}} {
			for _, l := range [][][2]api.Type{{pair}, {{good, con("Bool")}, pair}, {pair, {good, con("Bool")}}} {
				if got, code := unify.All(l); code != api.ErrArg || got != nil {
					t.Errorf("%d: All gives %v and %d", i, got, code)
				}
			}
			if got, code := unify.Unify(pair[0], pair[1]); code != api.ErrArg || got != nil {
				t.Errorf("%d: Unify gives %v and %d", i, got, code)
			}
			if got, code := unify.Match(pair[0], pair[1]); code != api.ErrArg || got != nil {
				t.Errorf("%d: Match gives %v and %d", i, got, code)
			}
			if unify.Variant(pair[0], pair[1]) {
				t.Errorf("%d: a variant", i)
			}
		}
	}
}

// doubling returns pairs that bind a(i) to a type with two a(i+1), up to a(n).
func doubling(t *testing.T, n int) [][2]api.Type {
	var texts []string
	for i := range n {
		next := "a" + strconv.Itoa(i+1)
		texts = append(texts, "a"+strconv.Itoa(i)+" = "+next+" "+next)
	}
	return pairs(t, strings.Join(texts, ";"))
}

// ErrLong: the bound type, or one in which it replaces a variable, has too many nodes or is nested too deeply.
func TestLong(t *testing.T) {
	deep := variable("a")
	for range api.MaxDepth - 1 {
		deep = types.Apply(con("T"), deep)
	}
	wide := variable("a")
	for range 13 {
		wide = types.Apply(wide, wide)
	}
	list := parsed(t, "[b]")
	for _, c := range []struct {
		name  string
		pairs [][2]api.Type
		want  api.Errno
	}{
		{"as deep as possible", [][2]api.Type{{variable("b"), deep}, {variable("a"), con("Int")}}, api.OK},
		{"the bound type is too deep", [][2]api.Type{{variable("a"), list}, {variable("c"), deep}}, api.ErrLong},
		{"another type becomes too deep", [][2]api.Type{{variable("c"), deep}, {variable("a"), list}}, api.ErrLong},
		{"the bound type is too large", [][2]api.Type{{variable("a"), list}, {variable("c"), wide}}, api.ErrLong},
		{"another type becomes too large", [][2]api.Type{{variable("c"), wide}, {variable("a"), list}}, api.ErrLong},
		{"as large as possible", [][2]api.Type{{variable("c"), wide}, {variable("a"), con("Int")}}, api.OK},
		{"doubling", doubling(t, 13), api.OK},
		{"doubling", doubling(t, 14), api.ErrLong},
		{"doubling", doubling(t, 5000), api.ErrLong},
		{"doubling from the end", reversed(doubling(t, 13)), api.OK},
		{"doubling from the end", reversed(doubling(t, 14)), api.ErrLong},
		{"an error before", append([][2]api.Type{{con("A"), con("B")}}, doubling(t, 14)...), api.ErrType},
		{"an error behind", append(doubling(t, 14), [2]api.Type{con("A"), con("B")}), api.ErrLong},
		// where the type would contain itself, and be too large as well
		{"infinite and too large", [][2]api.Type{{variable("a"), types.Apply(list, variable("c"))}, {variable("c"), wide}}, api.ErrInfinite},
		{"infinite and too deep", [][2]api.Type{{variable("a"), list}, {variable("b"), deep}}, api.ErrInfinite},
	} {
		l, code := unify.All(c.pairs)
		if code != c.want || code != api.OK && l != nil {
			t.Errorf("%s: %d, want %d", c.name, code, c.want)
		}
	}
}

func reversed(l [][2]api.Type) [][2]api.Type {
	l = slices.Clone(l)
	slices.Reverse(l)
	return l
}

// P18.3: the only substitution of the pattern's variables that makes it equal to the type.
func TestMatch(t *testing.T) {
	for _, c := range []struct {
		pattern, text, want string
		code                api.Errno
	}{
		{"a -> a", "b -> b", "a = b", api.OK},
		{"a -> a", "Int -> b", "", api.ErrType},
		{"a -> a", "b -> Int", "", api.ErrType},
		{"a", "a", "a = a", api.OK},
		{"a -> b", "b -> a", "a = b; b = a", api.OK},
		{"b -> a -> b", "[a] -> b -> [a]", "b = [a]; a = b", api.OK},
		{"f a", "T b Int", "f = T b; a = Int", api.OK},
		{"f a", "a -> b", "f = (->) a; a = b", api.OK},
		{"[a]", "a", "", api.ErrType},
		{"a", "[a]", "a = [a]", api.OK},
		{"Int", "Int", "", api.OK},
		{"Int", "Bool", "", api.ErrType},
		{"Int", "a", "", api.ErrType},
		{"T a", "U Int", "", api.ErrType},
		{"T Int", "T a", "", api.ErrType},
		{"(a, [a])", "([b], [[b]])", "a = [b]", api.OK},
		{"(a, [a])", "([b], [[c]])", "", api.ErrType},
		{"f (f a)", "[[Int]]", "f = []; a = Int", api.OK},
	} {
		l, code := unify.Match(parsed(t, c.pattern), parsed(t, c.text))
		if got := printed(l); got != c.want || code != c.code {
			t.Errorf("%s and %s give %s and %d, want %s and %d", c.pattern, c.text, got, code, c.want, c.code)
		}
	}
}

// P18.4: compositions.
func TestCompose(t *testing.T) {
	for _, c := range []struct{ second, first, want string }{
		{"b = Int", "a = [b]", "a = [Int]; b = Int"},
		{"", "", ""},
		{"a = b", "", "a = b"},
		{"", "a = b", "a = b"},
		{"a = Int", "a = a", "a = Int"},
		{"b = c; a = d", "a = b; c = a", "a = c; c = d; b = c"},
		{"a = b", "b = a", "b = b; a = b"},
		// of several bindings of a name the first one counts
		{"b = Int; b = Bool", "a = [b]; a = b", "a = [Int]; b = Int"},
		{"a = Int; a = Bool; c = d; c = e", "a = b; a = c", "a = b; c = d"},
		// quantified variables are renamed, where they would capture others
		{"b = c", "a = forall c. b -> c", "a = forall c$1. c -> c$1; b = c"},
		{"b = Int; c = Int", "a = forall c. b -> c", "a = forall c. Int -> c; b = Int; c = Int"},
	} {
		if got := printed(unify.Compose(bindings(t, c.second), bindings(t, c.first))); got != c.want {
			t.Errorf("%s after %s is %s, want %s", c.second, c.first, got, c.want)
		}
	}
}

// P18.4: invalid bindings, and results that are too large, also of bindings that do not count.
func TestComposeInvalid(t *testing.T) {
	wide := variable("b")
	for range 13 {
		wide = types.Apply(wide, wide)
	}
	good := bindings(t, "b = [c]; d = Int")
	for i, bad := range []api.Binding{
		{Name: "A", Type: con("Int")},
		{Name: "", Type: con("Int")},
		{Name: "a"},
		{Name: "a", Type: variable("B")},
		{Name: "b", Type: notSimple()[8]},
		{Name: "b", Type: notSimple()[9]},
	} {
		for _, l := range [][]api.Binding{{bad}, append([]api.Binding{bad}, good...), append(slices.Clone(good), bad)} {
			if got := unify.Compose(l, good); got != nil {
				t.Errorf("%d: %v", i, got)
			}
			if got := unify.Compose(good, l); got != nil {
				t.Errorf("%d: %v", i, got)
			}
		}
	}
	large := api.Binding{Name: "a", Type: wide}
	for _, first := range [][]api.Binding{{large}, append(bindings(t, "a = Int"), large)} {
		if got := unify.Compose(good, first); got != nil {
			t.Errorf("%v", got)
		}
		if got := unify.Compose(bindings(t, "b = Int; c = [a]"), first); len(got) != 3 {
			t.Errorf("%v", got)
		}
	}
	// what second has may be of any size that is valid
	if got := unify.Compose([]api.Binding{large}, bindings(t, "c = [c]")); len(got) != 2 {
		t.Errorf("%v", got)
	}
}

// P18.5: variants are equal up to a one-to-one renaming.
func TestVariant(t *testing.T) {
	for _, c := range []struct {
		a, b string
		want bool
	}{
		{"a -> b", "b -> a", true},
		{"a -> b", "a -> a", false},
		{"a -> a", "a -> b", false},
		{"a -> b -> a", "c -> a -> c", true},
		{"a -> b -> a", "c -> a -> a", false},
		{"Int", "Int", true},
		{"Int", "Bool", false},
		{"a", "Int", false},
		{"Int", "a", false},
		{"[a]", "[[a]]", false},
		{"f a", "g (b)", true},
		{"f a", "[b]", false},
		{"f a", "f f", false},
	} {
		if got := unify.Variant(parsed(t, c.a), parsed(t, c.b)); got != c.want {
			t.Errorf("%s and %s: %t", c.a, c.b, got)
		}
	}
}

// Results share memory neither with arguments nor with each other.
func TestNewMemory(t *testing.T) {
	l := pairs(t, "a = [b]; c = a; d = [b]; e = (b, b); b = [f]")
	before := pairs(t, "a = [b]; c = a; d = [b]; e = (b, b); b = [f]")
	result, _ := unify.All(l)
	text := "a = [[f]]; c = [[f]]; d = [[f]]; e = ([f], [f]); b = [f]"
	if printed(result) != text {
		t.Fatal(printed(result))
	}
	checkSeparate(t, result, text)
	if !reflect.DeepEqual(l, before) {
		t.Error("the argument has changed")
	}
	pattern, from := parsed(t, "(a, b, a)"), parsed(t, "([b], [c], [b])")
	result, _ = unify.Match(pattern, from)
	checkSeparate(t, result, "a = [b]; b = [c]")
	second, first := bindings(t, "b = [c]; d = [e]"), bindings(t, "a = (b, b); f = [g]")
	checkSeparate(t, unify.Compose(second, first), "a = ([c], [c]); f = [g]; b = [c]; d = [e]")
	if printed(second)+printed(first)+types.Print(from) != "b = [c]; d = [e]a = (b, b); f = [g]([b], [c], [b])" {
		t.Error("the arguments have changed")
	}
}

// checkSeparate changes the result, node by node, and reports other parts that change, too.
func checkSeparate(t *testing.T, result []api.Binding, text string) {
	t.Helper()
	changes := 0
	var visit func(node *api.Type)
	visit = func(node *api.Type) {
		changes++
		node.Name = "x" + strconv.Itoa(changes)
		for i := range node.Kids {
			visit(&node.Kids[i])
		}
	}
	for i := range result {
		visit(&result[i].Type)
	}
	seen := map[string]bool{}
	var check func(node api.Type)
	check = func(node api.Type) {
		if seen[node.Name] {
			t.Errorf("%s: the parts share memory", text)
		}
		seen[node.Name] = true
		for _, kid := range node.Kids {
			check(kid)
		}
	}
	for _, b := range result {
		check(b.Type)
	}
}

// Many variables take little time.
func TestIsFast(t *testing.T) {
	a, b := variable("a0"), variable("b0")
	for i := range 12 {
		suffix := strconv.Itoa(i)
		a = types.Apply(a, renamed(a, "x"+suffix))
		b = types.Apply(b, renamed(b, "y"+suffix))
	}
	l, code := unify.Unify(a, b)
	if code != api.OK || len(l) != 4096 {
		t.Error(len(l), code)
	}
	var chain [][2]api.Type
	for i := range 1500 {
		chain = append(chain, [2]api.Type{variable("a" + strconv.Itoa(i)), variable("a" + strconv.Itoa(i+1))})
	}
	for _, l := range [][][2]api.Type{chain, reversed(chain)} {
		if got, code := unify.All(l); code != api.OK || len(got) != 1500 || got[7].Type.Name != "a1500" {
			t.Error(len(got), code)
		}
	}
}

// renamed returns a type in which all variables have other names.
func renamed(t api.Type, suffix string) api.Type {
	if t.Op == api.TVar {
		return variable(t.Name + suffix)
	}
	for i := range t.Kids {
		if i == 0 {
			t.Kids = slices.Clone(t.Kids)
		}
		t.Kids[i] = renamed(t.Kids[i], suffix)
	}
	return t
}

// All functions return for any arguments.
func TestTotality(t *testing.T) {
	r := rand.New(rand.NewSource(20))
	var anyType func(deep int) api.Type
	anyType = func(deep int) api.Type {
		t := api.Type{Op: api.TypeOp(1 + r.Intn(4)), Name: []string{"a", "b", "T", ""}[r.Intn(4)]}
		if t.Op == api.TApp && r.Intn(5) > 0 {
			t.Name = ""
		}
		for range r.Intn(4) {
			if deep > 0 {
				t.Kids = append(t.Kids, anyType(deep-1))
			}
		}
		return t
	}
	list := func() []api.Binding {
		var l []api.Binding
		for range r.Intn(3) {
			l = append(l, api.Binding{Name: []string{"a", "b", "T", ""}[r.Intn(4)], Type: anyType(2)})
		}
		return l
	}
	for range 20000 {
		a, b := anyType(3), anyType(3)
		unify.Unify(a, b)
		unify.All([][2]api.Type{{a, b}, {b, anyType(1)}})
		unify.Match(a, b)
		unify.Compose(list(), list())
		unify.Variant(a, b)
	}
}
