package unify_test

import (
	"math/rand"
	"strconv"
	"strings"
	"testing"

	"lazyc/api"
	"lazyc/types"
)

func parsed(t *testing.T, text string) api.Type {
	t.Helper()
	result, fault := types.Parse(text)
	if fault != (api.Fault{}) {
		t.Fatalf("%s: %v", text, fault)
	}
	return result
}

// bindings returns the substitution of a text as "a = t; b = u".
func bindings(t *testing.T, text string) []api.Binding {
	t.Helper()
	var l []api.Binding
	for _, part := range strings.Split(text, ";") {
		if name, by, ok := strings.Cut(part, "="); ok {
			l = append(l, api.Binding{Name: strings.TrimSpace(name), Type: parsed(t, by)})
		}
	}
	return l
}

// pairs returns the pairs of a text as "t = u; v = w".
func pairs(t *testing.T, text string) [][2]api.Type {
	t.Helper()
	var l [][2]api.Type
	for _, part := range strings.Split(text, ";") {
		if a, b, ok := strings.Cut(part, "="); ok {
			l = append(l, [2]api.Type{parsed(t, a), parsed(t, b)})
		}
	}
	return l
}

// printed returns the text of a substitution.
func printed(l []api.Binding) string {
	var texts []string
	for _, b := range l {
		texts = append(texts, b.Name+" = "+types.Print(b.Type))
	}
	return strings.Join(texts, "; ")
}

func variable(name string) api.Type { return api.Type{Op: api.TVar, Name: name} }

func con(name string) api.Type { return api.Type{Op: api.TCon, Name: name} }

func forall(name string, body api.Type) api.Type {
	return api.Type{Op: api.TForall, Name: name, Kids: []api.Type{body}}
}

// notSimple returns types for which every function reports that they are not simple.
func notSimple() []api.Type {
	deep := variable("a")
	for range api.MaxDepth {
		deep = types.Apply(con("[]"), deep)
	}
	wide := variable("a")
	for range 14 {
		wide = types.Apply(wide, wide)
	}
	return []api.Type{
		{},
		variable("A"),
		con("b"),
		{Op: api.TApp, Kids: []api.Type{con("T")}},
		{Op: api.TVar, Name: "a", Bound: api.Kind{Args: []api.Kind{{}}}},
		forall("a", con("Int")),
		types.Apply(con("[]"), forall("a", variable("a"))),
		types.Apply(con("[]"), api.Type{}),
		deep,
		wide,
	}
}

// randomType returns a type with the variables v0 to vn.
func randomType(r *rand.Rand, vars, depth int) api.Type {
	switch {
	case depth > 0 && r.Intn(3) > 0:
		return types.Apply(randomType(r, vars, depth-1), randomType(r, vars, depth-1))
	case r.Intn(3) == 0:
		return con([]string{"A", "B"}[r.Intn(2)])
	}
	return variable("v" + strconv.Itoa(r.Intn(vars)))
}

// randomBindings returns a substitution for the variables.
func randomBindings(r *rand.Rand, vars, depth int) []api.Binding {
	var l []api.Binding
	for i := range vars {
		l = append(l, api.Binding{Name: "v" + strconv.Itoa(i), Type: randomType(r, vars, depth)})
	}
	return l
}
