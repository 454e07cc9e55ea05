package types

import (
	"math/rand"
	"slices"
	"strings"
	"testing"

	"lazyc/api"
)

func pick(random *rand.Rand, words string) string {
	list := strings.Fields(words)
	return list[random.Intn(len(list))]
}

func randomKind(random *rand.Rand, depth int) api.Kind {
	var k api.Kind
	for depth > 0 && random.Intn(2) == 0 {
		k.Args = append(k.Args, randomKind(random, depth-1))
	}
	return k
}

const variables = "a b b$1 b$2 c forall$1"

func randomType(random *rand.Rand, depth int) api.Type {
	inner := func() api.Type { return randomType(random, depth-1) }
	if depth == 0 || random.Intn(6) == 0 {
		if random.Intn(3) > 0 {
			return tv(pick(random, variables))
		}
		return tc(pick(random, "Int M.Maybe X$1 M.X$2 : :+ M.:+ :+$1 M.:$$2 :$ -> [] () (,) (,,) (,,,,,,)"))
	}
	switch random.Intn(7) {
	case 0, 1:
		return allOf(pick(random, variables), randomKind(random, 2), inner())
	case 2:
		return fun(inner(), inner())
	case 3:
		return app(tc("[]"), inner())
	case 4:
		return app(tc("(,)"), inner(), inner())
	case 5:
		return app(inner(), inner(), inner())
	}
	return app(inner(), inner())
}

// P4.4: what is printed is parsed as it was.
func TestRoundTrips(t *testing.T) {
	random := rand.New(rand.NewSource(1))
	for range 5000 {
		arg := randomType(random, 5)
		if got, fault := Parse(Print(arg)); fault != (api.Fault{}) || !same(got, arg) {
			t.Fatalf("%v as %q: %v %v", arg, Print(arg), got, fault)
		}
		k := randomKind(random, 4)
		if got, fault := ParseKind(PrintKind(k)); fault != (api.Fault{}) || !same(got, k) {
			t.Fatalf("%v as %q: %v %v", k, PrintKind(k), got, fault)
		}
		scheme := api.Scheme{Type: arg}
		for _, name := range strings.Fields(variables)[random.Intn(7):] {
			scheme.Vars = append(scheme.Vars, api.TyVar{Name: name, Kind: randomKind(random, 2)})
		}
		for range random.Intn(4) {
			scheme.Preds = append(scheme.Preds, pred(pick(random, "Eq M.Eq :+ M.:+ Eq$1 :+$1 M.:+$$2"), randomType(random, 3)))
		}
		text := PrintScheme(scheme)
		if got, fault := ParseScheme(text); fault != (api.Fault{}) || !same(got, scheme) {
			t.Fatalf("%v as %q: %v %v", scheme, text, got, fault)
		}
	}
	deep, _ := Parse(Print(nested(100)))
	broad, _ := Parse(Print(wide(19999)))
	if !same(deep, nested(100)) || !same(broad, wide(19999)) {
		t.Error("large types")
	}
}

// P4.3: no text is an obstacle, and what is accepted has the same text again.
func TestAnyText(t *testing.T) {
	random := rand.New(rand.NewSource(2))
	pieces := strings.Split("a|b|M|.|X|Eq|:|+|$|1|(|)|[|]|,|->|=>|::|*|forall| | | |\n|'|_|where|\x80", "|")
	accepted := 0
	for range 50000 {
		var text strings.Builder
		for range random.Intn(9) {
			text.WriteString(pieces[random.Intn(len(pieces))])
		}
		scheme, fault := ParseScheme(text.String())
		if arg, typeFault := Parse(text.String()); typeFault == (api.Fault{}) {
			if again, _ := Parse(Print(arg)); !same(again, arg) || fault != (api.Fault{}) {
				t.Fatalf("%q: %v, then %v; as a scheme: %v", text.String(), arg, again, fault)
			}
		}
		if fault != (api.Fault{}) {
			continue
		}
		accepted++
		if again, _ := ParseScheme(PrintScheme(scheme)); !same(again, scheme) {
			t.Fatalf("%q: %v, then %v", text.String(), scheme, again)
		}
	}
	if accepted < 1000 {
		t.Error("only", accepted, "texts are accepted")
	}
}

// nameless writes a type with the numbers of the quantifications around it in the place of their variables, after a substitution.
func nameless(t api.Type, bound []string, s map[string]api.Type) string {
	switch t.Op {
	case api.TVar:
		for i, name := range slices.Backward(bound) {
			if name == t.Name {
				return "#" + strings.Repeat("i", len(bound)-i)
			}
		}
		if by, ok := s[t.Name]; ok {
			return nameless(by, nil, nil)
		}
		return t.Name
	case api.TForall:
		return "(all " + PrintKind(t.Bound) + " " + nameless(t.Kids[0], append(bound, t.Name), s) + ")"
	case api.TApp:
		return "(" + nameless(t.Kids[0], bound, s) + " " + nameless(t.Kids[1], bound, s) + ")"
	}
	return t.Name
}

// P4.2: substitution never captures a variable, and equality ignores only names.
func TestSubstMeaning(t *testing.T) {
	random := rand.New(rand.NewSource(3))
	equal := 0
	for range 10000 {
		arg := randomType(random, 5)
		var s []api.Binding
		by := map[string]api.Type{}
		for range random.Intn(5) {
			b := api.Binding{Name: pick(random, variables), Type: randomType(random, 2)}
			if _, ok := by[b.Name]; !ok {
				by[b.Name] = b.Type
			}
			s = append(s, b)
		}
		got := Subst(s, arg)
		if Check(got) != api.OK || nameless(got, nil, nil) != nameless(arg, nil, by) {
			t.Fatalf("Subst(%v, %s) = %s", s, Print(arg), Print(got))
		}
		checkFreeOfSubst(t, by, arg, got)
		small, other := randomType(random, 3), randomType(random, 1)
		if random.Intn(2) == 0 {
			other = renamed(random, small)
		}
		if Equal(small, other) != (nameless(small, nil, nil) == nameless(other, nil, nil)) {
			t.Fatalf("Equal(%s, %s)", Print(small), Print(other))
		}
		if Equal(small, other) {
			equal++
		}
	}
	if equal < 1000 {
		t.Error("only", equal, "equal pairs")
	}
}

// checkFreeOfSubst checks the free variables of the result of a substitution.
func checkFreeOfSubst(t *testing.T, by map[string]api.Type, arg, got api.Type) {
	t.Helper()
	var want []string
	for _, name := range Free(arg) {
		if t, ok := by[name]; ok {
			want = append(want, Free(t)...)
		} else {
			want = append(want, name)
		}
	}
	slices.Sort(want)
	free := Free(got)
	slices.Sort(free)
	if !slices.Equal(free, slices.Compact(want)) {
		t.Fatalf("the free variables of %s are %v, not %v", Print(got), free, want)
	}
}

// renamed returns an equal type with other names of quantified variables.
func renamed(random *rand.Rand, t api.Type) api.Type {
	if t.Op == api.TForall {
		body := renamed(random, t.Kids[0])
		name := "n$" + pick(random, "1 2 3 4 5 6 7 8 9")
		if !slices.Contains(Free(body), name) {
			return allOf(name, t.Bound, Subst([]api.Binding{{Name: t.Name, Type: tv(name)}}, body))
		}
	}
	var kids []api.Type
	for _, kid := range t.Kids {
		kids = append(kids, renamed(random, kid))
	}
	t.Kids = kids
	return t
}

// P4.5: the laws of substitution and equality.
func TestLaws(t *testing.T) {
	random := rand.New(rand.NewSource(4))
	for range 4000 {
		arg, other := randomType(random, 5), randomType(random, 2)
		equal, third := renamed(random, arg), renamed(random, arg)
		if !Equal(arg, arg) || !Equal(arg, equal) || !Equal(equal, arg) || !Equal(equal, third) {
			t.Fatalf("%s, %s and %s are not all equal", Print(arg), Print(equal), Print(third))
		}
		if Equal(arg, other) != Equal(other, arg) || Equal(arg, other) != Equal(equal, other) {
			t.Fatalf("%s, %s and %s", Print(arg), Print(equal), Print(other))
		}
		name := pick(random, variables)
		s := []api.Binding{{Name: name, Type: other}, {Name: pick(random, variables), Type: randomType(random, 1)}}
		if !Equal(Subst(s, arg), Subst(s, equal)) {
			t.Fatalf("%v in %s and %s", s, Print(arg), Print(equal))
		}
		if got := Subst([]api.Binding{{Name: name, Type: tv(name)}}, arg); !Equal(got, arg) {
			t.Fatalf("%s for itself in %s: %s", name, Print(arg), Print(got))
		}
		if got := Subst(s[:1], arg); !slices.Contains(Free(arg), name) && !same(got, arg) {
			t.Fatalf("%v in %s: %s", s[:1], Print(arg), Print(got))
		}
	}
}
