package types

import (
	"strings"
	"testing"

	"lazyc/api"
)

func vars(names string) []api.TyVar {
	var list []api.TyVar
	for _, name := range strings.Fields(names) {
		list = append(list, api.TyVar{Name: name})
	}
	return list
}

func pred(class string, t api.Type) api.Pred { return api.Pred{Class: class, Type: t} }

// checkSchemeText checks that a text has a scheme, and which text that scheme is written as.
func checkSchemeText(t *testing.T, text string, want api.Scheme, written string) {
	t.Helper()
	if got, fault := ParseScheme(text); fault != (api.Fault{}) || !same(got, want) {
		t.Errorf("ParseScheme(%q) = %v, %v, want %v", text, got, fault, want)
	}
	if got := PrintScheme(want); got != written {
		t.Errorf("PrintScheme(%v) = %q, want %q", want, got, written)
	}
}

// P4.3: schemes and their texts.
func TestSchemes(t *testing.T) {
	f := tv("f")
	eq := pred("Eq", a)
	for text, want := range map[string]api.Scheme{
		"a":             {Type: a},
		"Int -> a":      {Type: fun(integer, a)},
		"forall a. a":   {Vars: vars("a"), Type: a},
		"forall a b. x": {Vars: vars("a b"), Type: x},
		"forall a (f :: * -> *). (Eq a, Functor f) => f a -> (a, Int)": {
			Vars: append(vars("a"), api.TyVar{Name: "f", Kind: one}), Preds: []api.Pred{eq, pred("Functor", f)}, Type: fun(app(f, a), tuple(a, integer)),
		},
		"Eq a => a":                       {Preds: []api.Pred{eq}, Type: a},
		"forall a. Eq a => a":             {Vars: vars("a"), Preds: []api.Pred{eq}, Type: a},
		"(Eq a, Eq a) => a":               {Preds: []api.Pred{eq, eq}, Type: a},
		"Eq (Maybe a) => a":               {Preds: []api.Pred{pred("Eq", app(maybe, a))}, Type: a},
		"Eq (a -> b) => a":                {Preds: []api.Pred{pred("Eq", fun(a, b))}, Type: a},
		"Eq (forall a. a) => a":           {Preds: []api.Pred{pred("Eq", all("a", a))}, Type: a},
		"(Eq [a], Eq (a, b), Eq ()) => a": {Preds: []api.Pred{pred("Eq", list(a)), pred("Eq", tuple(a, b)), pred("Eq", tc("()"))}, Type: a},
		"(M.Eq (:+), Eq$1 (->)) => a":     {Preds: []api.Pred{pred("M.Eq", tc(":+")), pred("Eq$1", tc("->"))}, Type: a},
		":+ a => a":                       {Preds: []api.Pred{pred(":+", a)}, Type: a},
		"forall a. :+$1 a => a":           {Vars: vars("a"), Preds: []api.Pred{pred(":+$1", a)}, Type: a},
		"(M.:+ a, :+ (:+)) => (:+) a":     {Preds: []api.Pred{pred("M.:+", a), pred(":+", tc(":+"))}, Type: app(tc(":+"), a)},
		"(forall a. a)":                   {Type: all("a", a)},
		"forall a. (forall b. a)":         {Vars: vars("a"), Type: all("b", a)},
		"Eq a => (forall a. a)":           {Preds: []api.Pred{eq}, Type: all("a", a)},
		"a -> forall b. b":                {Type: fun(a, all("b", b))},
		"forall b. a -> forall b c. b":    {Vars: vars("b"), Type: fun(a, all("b", all("c", b)))},
		"(a, b)":                          {Type: tuple(a, b)},
		"Eq a":                            {Type: app(tc("Eq"), a)},
		"(Eq a, Eq b)":                    {Type: tuple(app(tc("Eq"), a), app(tc("Eq"), b))},
	} {
		checkSchemeText(t, text, want, text)
	}
	for text, want := range map[string]api.Scheme{
		"() => a":                      {Type: a},
		"(Eq a) => a":                  {Preds: []api.Pred{eq}, Type: a},
		"( Eq(a) )=>a":                 {Preds: []api.Pred{eq}, Type: a},
		"forall a.()=>a":               {Vars: vars("a"), Type: a},
		"forall a. forall b. a":        {Vars: vars("a"), Type: all("b", a)},
		"Eq a => forall b. b":          {Preds: []api.Pred{eq}, Type: all("b", b)},
		"forall (a :: *) . Eq a => a":  {Vars: vars("a"), Preds: []api.Pred{eq}, Type: a},
		"((forall a. a))":              {Type: all("a", a)},
		"forall a. forall a. a":        {Vars: vars("a"), Type: all("a", a)},
		"Eq ((Maybe) (a)) => ((a, b))": {Preds: []api.Pred{pred("Eq", app(maybe, a))}, Type: tuple(a, b)},
	} {
		checkSchemeText(t, text, want, PrintScheme(want))
	}
}

func checkNoScheme(t *testing.T, text string, code api.Errno) {
	t.Helper()
	if got, fault := ParseScheme(text); fault != (api.Fault{Code: code}) || !same(got, api.Scheme{}) {
		t.Errorf("ParseScheme(%.60q) = %.60v, %v, want %v", text, got, fault, code)
	}
}

// P4.3: texts that are no texts of schemes, or of schemes that are not valid.
func TestNoSchemes(t *testing.T) {
	for _, text := range []string{
		"", "forall . a", "forall a.", "=> a", "Eq a =>", "Eq => a", "Eq a b => a", "Eq Maybe a => a", "eq a => a", "a => a", "[] a => a", "-> a => a", "() a => a", "(->) a => a", "(:+) a => a", "((Eq a)) => a", "(Eq a,) => a", "(,Eq a) => a",
		"(Eq a => a)", "a -> Eq a => a", "Eq a => Eq b => a", "Eq a => b =>", "Eq forall a. a => a", "Eq a -> b => a", "(Eq a, b) => a", "(Eq a => a", "Eq a = > a", "Eq a =>a => a", "Eq a, Eq b => a", "[Eq a] => a", "forall a => a", "forall a. . a", "a :: *",
		"Eq :+ => a", "=>", "Eq + => a", "+ a => a", "forall a b :: *. a",
	} {
		checkNoScheme(t, text, api.ErrForm)
	}
	checkNoScheme(t, strings.Repeat(" ", api.MaxSource)+"a", api.ErrLong)
	checkNoScheme(t, strings.Repeat("(", 10000), api.ErrForm)
	for _, text := range []string{
		"forall a a. a", "forall a b a. a", "forall a (a :: * -> *). a", strings.Repeat("[", 100) + "a" + strings.Repeat("]", 100), "Eq (" + Print(nested(100)) + " -> a) => a", "Eq " + strings.Repeat("[", 100) + "a" + strings.Repeat("]", 100) + " => a",
		"forall (a :: (" + PrintKind(deepKind(100)) + ") -> *). a", "a" + strings.Repeat(" a", 10000), "forall b. forall (a :: (" + PrintKind(deepKind(100)) + ") -> *). a",
	} {
		checkNoScheme(t, text, api.ErrArg)
	}
	// Types that are valid one by one, but not together.
	third, more := Print(wide(6665)), Print(wide(6667))
	if _, fault := ParseScheme("(Eq (" + third + "), Eq (" + third + ")) => " + third); fault != (api.Fault{}) {
		t.Error(fault)
	}
	checkNoScheme(t, "(Eq ("+more+"), Eq ("+more+")) => "+more, api.ErrArg)
}

// P4.3: schemes that are not valid have no text.
func TestPrintInvalidScheme(t *testing.T) {
	deep := deepKind(101)
	for _, bad := range []api.Scheme{
		{}, {Vars: vars("a a"), Type: a}, {Vars: vars("a b a"), Type: a}, {Vars: vars("A"), Type: a}, {Vars: []api.TyVar{{}}, Type: a}, {Vars: vars("forall"), Type: a},
		{Vars: []api.TyVar{{Name: "a", Kind: deep}}, Type: a}, {Vars: []api.TyVar{{Name: "a", Kind: wideKind(20001)}}, Type: a},
		{Preds: []api.Pred{pred("", a)}, Type: a}, {Preds: []api.Pred{pred("eq", a)}, Type: a}, {Preds: []api.Pred{pred("->", a)}, Type: a}, {Preds: []api.Pred{pred("()", a)}, Type: a}, {Preds: []api.Pred{pred("[]", a)}, Type: a}, {Preds: []api.Pred{pred("(,)", a)}, Type: a},
		{Preds: []api.Pred{pred("Eq", api.Type{})}, Type: a}, {Preds: []api.Pred{pred("Eq", nested(101))}, Type: a}, {Preds: []api.Pred{pred("Eq", a)}}, {Preds: []api.Pred{pred("Eq", a)}, Type: nested(101)}, {Preds: []api.Pred{pred("Eq", a), pred("eq", a)}, Type: a},
		{Type: wide(20001)}, {Preds: []api.Pred{pred("Eq", wide(20001))}, Type: a}, {Preds: []api.Pred{pred("Eq", wide(10001))}, Type: wide(10001)}, {Preds: []api.Pred{pred("Eq", wide(9999)), pred("Eq", wide(9999))}, Type: app(a, b)},
	} {
		if got := PrintScheme(bad); got != "" {
			t.Errorf("PrintScheme(%.100v) = %.100q", bad, got)
		}
	}
	for _, good := range []api.Scheme{
		{Preds: []api.Pred{pred("Eq", wide(9999)), pred("Eq", wide(9999))}, Type: all("a", a)}, {Vars: []api.TyVar{{Name: "a", Kind: wideKind(20000)}, {Name: "b", Kind: deepKind(100)}}, Type: wide(19999)}, {Preds: []api.Pred{pred("X$1", a)}, Type: a},
	} {
		if PrintScheme(good) == "" {
			t.Errorf("no text of %.100v", good)
		}
	}
}
