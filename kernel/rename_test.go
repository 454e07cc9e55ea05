package kernel

import (
	"fmt"
	"maps"
	"reflect"
	"slices"
	"strings"
	"testing"

	"lazyc/api"
	"lazyc/names"
)

// freeOf finds the free variables by the definition of scopes, form by form.
func freeOf(e api.Kernel, bound []string) []string {
	var list []string
	visit := func(e api.Kernel, more ...string) {
		list = append(list, freeOf(e, append(slices.Clone(bound), more...))...)
	}
	switch e.Op {
	case api.KVar:
		if !slices.Contains(bound, e.Name) {
			list = append(list, e.Name)
		}
	case api.KApp:
		visit(e.Kids[0])
		visit(e.Kids[1])
	case api.KSig:
		visit(e.Kids[0])
	case api.KLam:
		visit(e.Kids[0], e.Name)
	case api.KLet:
		var names []string
		for _, b := range e.Binds {
			names = append(names, b.Name)
		}
		for _, b := range e.Binds {
			visit(b.Body, names...)
		}
		visit(e.Kids[0], names...)
	case api.KCase:
		visit(e.Kids[0])
		for _, a := range e.Alts {
			visit(a.Body, a.Vars...)
		}
	}
	return list
}

// once returns the elements without later repetitions.
func once(list []string) []string {
	var result []string
	for _, s := range list {
		if !slices.Contains(result, s) {
			result = append(result, s)
		}
	}
	return result
}

// P13.2: the free variables, in the order of their first occurrence.
func TestFree(t *testing.T) {
	for want, e := range map[string]api.Kernel{
		"f g":     klet(kapp(kvar("x"), kvar("g")), bind("x", kapp(kvar("f"), kvar("x")))),
		"":        klam("x y", kapp(kvar("x"), kvar("y"), kcon("C"), kint(1))),
		"y x":     kapp(klam("x", kapp(kvar("x"), kvar("y"))), kvar("x"), kvar("y")),
		"M.x + z": kapp(kvar("M.x"), kvar("+"), kvar("M.x"), kvar("z")),
		"z x w v": kcase(kvar("z"), acon("C x y", kapp(kvar("x"), kvar("y"))), acon("D y", kapp(kvar("x"), kvar("w"))), other(kvar("v"))),
		"b a":     klet(kvar("a"), bind("x", kvar("y")), bind("y", kapp(kvar("b"), kvar("x")))),
		"x":       ksig(kvar("x"), "forall a. a"),
	} {
		if got := Free(e); strings.Join(got, " ") != want {
			t.Errorf("%s: %v, want %s", Print(e), got, want)
		}
	}
	eachRandom(t, 5000, func(r maker, e api.Kernel) {
		if got, want := Free(e), once(freeOf(e, nil)); !slices.Equal(got, want) {
			t.Errorf("%s: %v, want %v", Print(e), got, want)
		}
	})
}

// P13.2: the examples, and how far binders are renamed.
func TestRename(t *testing.T) {
	x, y := kvar("x"), kvar("y")
	for _, test := range []struct {
		e        api.Kernel
		from, to string
		want     string
	}{
		{klam("y", kapp(x, y)), "x", "y", `\y$1 -> y y$1`},
		{klam("y", y), "x", "y", `\y -> y`},
		{klam("y x", kapp(x, y)), "x", "y", `\y -> \x -> x y`},
		{klam("x", kapp(x, y)), "x", "y", `\x -> x y`},
		{klam("y", kapp(x, kvar("y$1"), y)), "x", "y", `\y$2 -> y y$1 y$2`},
		{klam("y y$1", kapp(x, y, kvar("y$1"))), "x", "y", `\y$1 -> \y$2 -> y y$1 y$2`},
		{klam("y y$1", kapp(x, kvar("y$1"))), "x", "y", `\y$1 -> \y$1 -> y y$1`},
		{klam("y y y$1", kapp(x, y, kvar("y$1"))), "x", "y", `\y$1 -> \y$1 -> \y$2 -> y y$1 y$2`},
		{klam("y", x), "x", "x", `\y -> x`},
		{klam("x", x), "x", "x", `\x -> x`},
		{klam("y$1", kapp(x, kvar("y$1"))), "x", "y$1", `\y$2 -> y$1 y$2`},
		{klam("y$1", x), "x", "y$1", `\y$2 -> y$1`},
		{klam("y$5", kapp(x, kvar("y$5"))), "x", "y$5", `\y$1 -> y$5 y$1`},
		{klam("y", kapp(kvar("y$1"), y)), "y$1", "y", `\y$2 -> y y$2`},
		{klam("M.y", kapp(x, kvar("M.y"))), "x", "M.y", `\M.y$1 -> M.y M.y$1`},
		{klam("C$4", kapp(x, kvar("C$4"))), "x", "C$4", `\C$1 -> C$4 C$1`},
		{klam("+", kapp(x, kvar("+"))), "x", "+", `\(+$1) -> (+) (+$1)`},
		{klet(x, bind("y", y), bind("y$1", y)), "x", "y", `let { y$2 = y$2 ; y$1 = y$2 } in y`},
		{klet(kvar("y$2"), bind("z", x), bind("y", kapp(y, kvar("z")))), "x", "y", `let { z = y ; y$1 = y$1 z } in y$2`},
		{klet(y, bind("y", y), bind("x", x)), "x", "y", `let { y = y ; x = x } in y`},
		{klet(x, bind("y", kvar("y$1"))), "x", "y", `let { y$2 = y$1 } in y`},
		{kcase(x, acon("C y y$1", kapp(x, y)), acon("D y", kapp(x, y)), acon("E x y", kapp(x, y)), acon("F y", y), other(x)), "x", "y",
			`case y of { C y$2 y$1 -> y y$2 ; D y$1 -> y y$1 ; E x y -> x y ; F y -> y ; _ -> y }`},
		{klam("z", kapp(x, y)), "z", "y", `\z -> x y`},
		{ksig(typed(x, "a"), "b"), "x", "y", `(y @(a) :: b)`},
		{kcon("C"), "x", "y", `C`},
		// The inner binder takes the free name y$1, which must give way again.
		{klam("y$1", klam("y$2", klam("y$3", kapp(x, kvar("y$2"), kvar("y$3"), klam("y$1 y$2", kvar("y$1")))))), "x", "y$1",
			`\y$2 -> \y$2 -> \y$3 -> y$1 y$2 y$3 (\y$1 -> \y$2 -> y$1)`},
		{klam("y$1 y$2", kapp(x, kvar("y$1"), klam("y$3", kapp(x, kvar("y$2"), kvar("y$3"))))), "x", "y$1",
			`\y$2 -> \y$3 -> y$1 y$2 (\y$2 -> y$1 y$3 y$2)`},
	} {
		e := clone(test.e)
		got := Rename(e, test.from, test.to)
		if Print(got) != test.want {
			t.Errorf("%s with %s for %s: %s, want %s", Print(e), test.to, test.from, Print(got), test.want)
		}
		if !reflect.DeepEqual(e, test.e) {
			t.Errorf("%s was changed to %s", Print(test.e), Print(e))
		}
		checkApart(t, "Rename", e, got)
	}
}

// P13.2: names that are no variables'.
func TestRenameOfNoVariable(t *testing.T) {
	for _, name := range allNames() {
		want := slices.Contains(words(varNames), name)
		for _, e := range []api.Kernel{Rename(kvar("x"), name, "y"), Rename(kvar("x"), "x", name), Rename(kint(1), name, name)} {
			if (e.Op != 0) != want || !want && !reflect.DeepEqual(e, api.Kernel{}) {
				t.Errorf("Rename with %q: %v", name, e)
			}
		}
	}
}

// P13.4: the free variables of the result, the way back, and Alpha-equality.
func TestRenaming(t *testing.T) {
	eachRandom(t, 4000, func(r maker, e api.Kernel) {
		from, to := r.variable(), r.pick("x y y$1 y$2 M.f C$1 w q")
		got := Rename(e, from, to)
		if code := Check(got); code != api.OK {
			t.Fatalf("%s with %s for %s: error %d", Print(e), to, from, code)
		}
		want := Free(e)
		for i := range want {
			if want[i] == from {
				want[i] = to
			}
		}
		if list := Free(got); !slices.Equal(list, once(want)) {
			t.Errorf("%s with %s for %s: %s", Print(e), to, from, Print(got))
		}
		if back := Rename(got, to, from); !occurs(e, to) && !Alpha(back, e) {
			t.Errorf("%s with %s for %s: %s, and back: %s", Print(e), to, from, Print(got), Print(back))
		}
		// Substitution without names: free names are replaced in the nameless form.
		if nameless(got, nil) != strings.ReplaceAll(nameless(e, nil), "<"+from+">", "<"+to+">") {
			t.Errorf("%s with %s for %s: %s", Print(e), to, from, Print(got))
		}
		similar := shuffled(r, e)
		if !Alpha(e, similar) || !Alpha(got, Rename(similar, from, to)) {
			t.Errorf("%s and %s with %s for %s", Print(e), Print(similar), to, from)
		}
		if got.Op != e.Op || !reflect.DeepEqual(got.Types, e.Types) {
			t.Error("annotations")
		}
	})
}

// occurs reports whether a name occurs in an expression, bound or free.
func occurs(e api.Kernel, name string) bool {
	return slices.Contains(words(strings.NewReplacer("(", " ", ")", " ", `\`, " ").Replace(Print(e))), name)
}

// shuffled returns an expression that differs in the names of bound variables, and in annotations.
func shuffled(r maker, e api.Kernel) api.Kernel {
	e = clone(e)
	s := names.NewSupply(words("x y z y$1 y$2 M.f + C$1 w q")...)
	renameBinders(r, &e, s, map[string]string{})
	return e
}

func renameBinders(r maker, e *api.Kernel, s *names.Supply, now map[string]string) {
	enter := func(list ...*string) map[string]string {
		inner := maps.Clone(now)
		for _, name := range list {
			inner[*name] = s.Fresh(*name)
			*name = inner[*name]
		}
		return inner
	}
	e.Types = nil
	switch e.Op {
	case api.KVar:
		if other, ok := now[e.Name]; ok {
			e.Name = other
		}
	case api.KLam:
		now = enter(&e.Name)
	case api.KLet:
		var list []*string
		for i := range e.Binds {
			list = append(list, &e.Binds[i].Name)
		}
		now = enter(list...)
		for i := range e.Binds {
			e.Binds[i].Sigs = r.schemes(r.Intn(2))
			renameBinders(r, &e.Binds[i].Body, s, now)
		}
	}
	for i := range e.Kids {
		renameBinders(r, &e.Kids[i], s, now)
	}
	for i := range e.Alts {
		var list []*string
		for j := range e.Alts[i].Vars {
			list = append(list, &e.Alts[i].Vars[j])
		}
		renameBinders(r, &e.Alts[i].Body, s, enter(list...))
	}
}

// nameless returns a text in which bound variables are numbers of binders; annotations are left out.
func nameless(e api.Kernel, bound []string) string {
	part := func(e api.Kernel, more ...string) string {
		return "(" + nameless(e, append(slices.Clone(bound), more...)) + ")"
	}
	switch e.Op {
	case api.KVar:
		for i, name := range slices.Backward(bound) {
			if name == e.Name {
				return fmt.Sprint("#", i)
			}
		}
		return "<" + e.Name + ">"
	case api.KCon:
		return "con " + e.Name
	case api.KLam:
		return "lam " + part(e.Kids[0], e.Name)
	case api.KLet:
		var names []string
		for _, b := range e.Binds {
			names = append(names, b.Name)
		}
		text := "let"
		for _, b := range e.Binds {
			text += fmt.Sprint(b.Plain) + part(b.Body, names...)
		}
		return text + part(e.Kids[0], names...)
	case api.KCase:
		text := "case" + part(e.Kids[0])
		for _, a := range e.Alts {
			text += fmt.Sprint(a.Op, a.Name, a.N, len(a.Vars)) + part(a.Body, a.Vars...)
		}
		return text
	}
	text := fmt.Sprint(e.Op, e.N, e.Sigs)
	for _, kid := range e.Kids {
		text += part(kid)
	}
	return text
}

// P13.2: renaming in deep and long expressions ends in time.
func TestRenameDeep(t *testing.T) {
	e := kvar("x")
	for range 1000 {
		e = klam("y", kapp(kvar("x"), kvar("y"), e))
	}
	got := Rename(e, "x", "y")
	if !slices.Equal(Free(got), []string{"y"}) || got.Name != "y$1" {
		t.Error("a deep expression")
	}
	wide := klet(kvar("x"), bind("y", kvar("x")))
	for i := range 10000 {
		wide.Binds = append(wide.Binds, bind(fmt.Sprint("y$", i+1), kvar("y")))
	}
	if got := Rename(wide, "x", "y"); got.Binds[0].Name != "y$10001" || got.Binds[77].Body.Name != "y$10001" {
		t.Error("a long expression")
	}
}
