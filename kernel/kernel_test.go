package kernel

import (
	"fmt"
	"reflect"
	"slices"
	"strings"
	"testing"

	"lazyc/api"
)

// P13.3: what is equal up to the names of bound variables, and what is not.
func TestAlpha(t *testing.T) {
	x, y, z := kvar("x"), kvar("y"), kvar("z")
	for _, test := range []struct {
		a, b api.Kernel
		want bool
	}{
		{klam("x", kapp(y, x)), klam("z", kapp(y, z)), true},
		{klam("x", kapp(x, y)), klam("y", kapp(y, y)), false},
		{klam("y", kapp(y, y)), klam("x", kapp(x, y)), false},
		{klam("x y", x), klam("y x", y), true},
		{klam("x y", x), klam("x x", x), false},
		{klam("x x", x), klam("x y", y), true},
		{x, x, true}, {x, y, false}, {kcon("A"), kcon("B"), false}, {kcon("A"), kcon("A"), true}, {kint(1), kint(2), false}, {kint(1), kchar(1), false},
		{typed(x, "a"), x, true}, {typed(kcon("A"), "a"), typed(kcon("A"), "b; c"), true},
		{typed(klam("x", x), "a"), klam("y", y), true},
		{typed(kcase(x, other(y)), "a; b"), kcase(x, other(y)), true},
		{ksig(x, "forall a. a"), ksig(x, "forall a. a"), true}, {ksig(x, "forall a. a"), ksig(x, "forall b. b"), false}, {typed(ksig(x, "a"), "b"), ksig(x, "a"), true},
		{klet(x, signed(bind("x", y), "a")), klet(z, bind("z", y)), true},
		{klet(x, plain(bind("x", y))), klet(z, bind("z", y)), false},
		{klet(x, bind("x", y), bind("y", x)), klet(y, bind("y", x), bind("x", y)), true},
		{klet(x, bind("x", y), bind("y", x)), klet(x, bind("x", x), bind("y", y)), false},
		{klet(x, bind("x", kint(1)), bind("y", kint(2))), klet(x, bind("y", kint(2)), bind("x", kint(1))), false},
		{klet(x, bind("x", y)), klet(x, bind("x", y), bind("z", y)), false},
		{kcase(x, acon("C x y", kapp(x, y))), kcase(x, acon("C y x", kapp(y, x))), true},
		{kcase(x, acon("C x y", kapp(x, y))), kcase(x, acon("C x y", kapp(y, x))), false},
		{kcase(x, acon("C x", x)), kcase(x, acon("D x", x)), false},
		{kcase(x, acon("C x", z)), kcase(x, acon("C x y", z)), false},
		{kcase(x, acon("C x y", z)), kcase(x, acon("C x", z)), false},
		{kcase(x, acon("C x", x)), kcase(x, acon("C y", x)), false},
		{kcase(x, aint(1, y)), kcase(x, aint(2, y)), false}, {kcase(x, aint(1, y)), kcase(x, achar(1, y)), false},
		{kcase(x, aint(1, y)), kcase(x, aint(1, y), other(y)), false},
		{kcase(x, aint(1, y), aint(2, z)), kcase(x, aint(2, z), aint(1, y)), false},
		{klam("x", kapp(klam("x", x), x)), klam("y", kapp(klam("z", z), y)), true},
		{kapp(klam("x", x), x), kapp(klam("y", y), y), false},
	} {
		if Alpha(test.a, test.b) != test.want || Alpha(test.b, test.a) != test.want {
			t.Errorf("Alpha of %s and %s is not %v", Print(test.a), Print(test.b), test.want)
		}
	}
}

// P13.3: Alpha-equality is equality of the nameless forms.
func TestAlphaOfRandom(t *testing.T) {
	equal := 0
	eachRandom(t, 4000, func(r maker, e api.Kernel) {
		other := r.expr(r.Intn(3))
		if r.Intn(2) == 0 {
			other = shuffled(r, e)
			breakName(r, &other)
		}
		want := nameless(e, nil) == nameless(other, nil)
		if Alpha(e, other) != want || Alpha(other, e) != want || !Alpha(e, e) {
			t.Errorf("Alpha of %s and %s is not %v", Print(e), Print(other), want)
		}
		if want {
			equal++
		}
	})
	if equal < 500 {
		t.Errorf("only %d pairs are equal", equal)
	}
}

// breakName gives a random variable another name, now and then.
func breakName(r maker, e *api.Kernel) {
	var list []*api.Kernel
	visit(e, func(node *api.Kernel) bool {
		if node.Op == api.KVar {
			list = append(list, node)
		}
		return true
	})
	if len(list) > 1 && r.Intn(2) == 0 {
		list[r.Intn(len(list))].Name = list[r.Intn(len(list))].Name
	}
}

// eachChange calls check for each tree that differs from v in one place, while v has that change.
func eachChange(v reflect.Value, check func()) {
	old := copyOf(v)
	switch v.Kind() {
	case reflect.String:
		v.SetString(old.String() + "'")
	case reflect.Int:
		v.SetInt(old.Int() + 1)
	case reflect.Bool:
		v.SetBool(!old.Bool())
	case reflect.Struct:
		for i := range v.NumField() {
			eachChange(v.Field(i), check)
		}
		return
	case reflect.Slice:
		for i := range v.Len() {
			eachChange(v.Index(i), check)
		}
		if v.Len() > 0 {
			v.Set(v.Slice(0, v.Len()-1))
			check()
		}
		v.Set(reflect.Append(old, reflect.Zero(v.Type().Elem())))
	}
	check()
	v.Set(old)
}

// P13.3: Same compares all fields of all nodes, and nothing else.
func TestSame(t *testing.T) {
	changes := 0
	for what, e := range everyForm() {
		e = klet(e, signed(bind("x", clone(e)), "forall (f :: * -> *) a. (C a, D f) => f a -> (forall b. b)"))
		source := clone(e)
		if !Same(e, source) {
			t.Errorf("%s is not the same", what)
		}
		eachChange(reflect.ValueOf(&e).Elem(), func() {
			changes++
			if Same(e, source) || Same(source, e) {
				t.Errorf("%s: the same after a change: %v", what, e)
			}
		})
	}
	if changes < 1000 {
		t.Errorf("only %d changes", changes)
	}
	empty := api.Kernel{Op: api.KVar, Name: "x", Kids: []api.Kernel{}, Binds: []api.KBind{}, Alts: []api.KAlt{}, Sigs: []api.Scheme{}, Types: []api.Type{}}
	if !Same(empty, kvar("x")) || !Same(kvar("x"), empty) || Check(empty) != api.OK || !Same(api.Kernel{}, api.Kernel{}) {
		t.Error("empty slices are not like nil")
	}
}

// P13.3: Erase removes all annotations, and nothing else.
func TestErase(t *testing.T) {
	e := typed(ksig(klet(typed(kvar("x"), "a"), plain(signed(bind("x", typed(klam("y", kcon("C")), "b")), "a"))), "forall a. a"), "c")
	if got := Print(Erase(e)); got != `(let { plain x = \y -> C } in x :: forall a. a)` {
		t.Error(got)
	}
	eachRandom(t, 2000, func(r maker, e api.Kernel) {
		before := clone(e)
		erased := Erase(e)
		if !reflect.DeepEqual(e, before) {
			t.Error("the argument was changed")
		}
		checkApart(t, "Erase", e, erased)
		if !Alpha(e, erased) || nameless(e, nil) != nameless(erased, nil) || !slices.Equal(Free(e), Free(erased)) || !Same(Erase(erased), erased) {
			t.Errorf("%s became %s", Print(e), Print(erased))
		}
		for node := range All(erased) {
			if len(node.Types) > 0 || slices.ContainsFunc(node.Binds, func(b api.KBind) bool { return len(b.Sigs) > 0 }) {
				t.Errorf("annotations in %s", Print(erased))
			}
		}
	})
}

// groupNames returns the names of the bindings in groups.
func groupNames(groups [][]api.KBind) string {
	var list []string
	for _, group := range groups {
		var names []string
		for _, b := range group {
			names = append(names, b.Name)
		}
		list = append(list, strings.Join(names, " "))
	}
	return strings.Join(list, "; ")
}

// P13.2: the groups of bindings.
func TestGroups(t *testing.T) {
	x, y, z := kvar("x"), kvar("y"), kvar("z")
	for want, l := range map[string][]api.KBind{
		"x y; z":   {bind("x", y), bind("y", x), bind("z", x)},
		"":         {},
		"x":        {bind("x", x)},
		"z; y; x":  {bind("x", y), bind("y", z), bind("z", kint(1))},
		"x; y; z":  {bind("x", kint(1)), bind("y", klam("z", z)), bind("z", kvar("q"))},
		"y; z; x":  {bind("x", z), bind("y", kint(1)), bind("z", y)},
		"y; x; x":  {bind("x", y), bind("x", x), bind("y", kint(1))},
		"x z; y w": {bind("x", z), bind("y", kvar("w")), bind("z", x), bind("w", kapp(y, x))},
		"; 1":      {bind("", kvar("x")), bind("1", kvar("y"))},
	} {
		if got := groupNames(Groups(l)); got != want {
			t.Errorf("the groups %s, want %s", got, want)
		}
	}
}

// P13.2: each group refers to itself and earlier ones, bindings of a group reach each other, and memory is new.
func TestGroupsOfRandom(t *testing.T) {
	eachRandom(t, 500, func(r maker, e api.Kernel) {
		var l []api.KBind
		for _, name := range r.variables(6) {
			l = append(l, api.KBind{Name: name, Sigs: r.schemes(r.Intn(3)), Plain: r.Intn(2) == 0, Body: r.expr(r.Intn(4))})
		}
		groups := Groups(l)
		checkApart(t, "Groups", groups, l)
		reach := func(from, to string) bool { return slices.Contains(reached(l, from), to) }
		var seen []string
		for _, group := range groups {
			for i, b := range group {
				seen = append(seen, b.Name)
				at := slices.IndexFunc(l, func(o api.KBind) bool { return o.Name == b.Name })
				if !reflect.DeepEqual(l[at], b) {
					t.Errorf("the binding %s has changed", b.Name)
				}
				if first := group[0].Name; i > 0 && !(reach(first, b.Name) && reach(b.Name, first)) {
					t.Errorf("%s and %s are in one group", first, b.Name)
				}
			}
			for _, b := range group {
				for _, name := range Free(b.Body) {
					if slices.ContainsFunc(l, func(o api.KBind) bool { return o.Name == name }) && !slices.Contains(seen, name) {
						t.Errorf("%s uses %s, which comes later", b.Name, name)
					}
				}
			}
		}
		if len(seen) != len(l) || len(once(seen)) != len(l) {
			t.Errorf("%d bindings became %d", len(l), len(seen))
		}
	})
}

// reached returns the names of the bindings that a binding can reach.
func reached(l []api.KBind, from string) []string {
	list := []string{from}
	for i := 0; i < len(list); i++ {
		for _, b := range l {
			if b.Name == list[i] {
				list = once(append(list, Free(b.Body)...))
			}
		}
	}
	return list
}

// P13.5: the text of every form.
func TestPrint(t *testing.T) {
	f, x := kvar("f"), kvar("x")
	for want, e := range map[string]api.Kernel{
		"case f (g 1) of { [] -> 0 ; (:) x y -> x }": kcase(kapp(f, kapp(kvar("g"), kint(1))), acon("[]", kint(0)), acon(": x y", x)),
		"x": x, "(+)": kvar("+"), "M.x": kvar("M.x"), "(M.+)": kvar("M.+"), "(+$1)": kvar("+$1"), "(M..$2)": kvar("M..$2"), "x$1": kvar("x$1"), "M.x$1": kvar("M.x$1"),
		"C": kcon("C"), "(:)": kcon(":"), "[]": kcon("[]"), "()": kcon("()"), "(,,)": kcon("(,,)"), "(M.:+)": kcon("M.:+"), "C$0": kcon("C$0"), "C$1": kvar("C$1"), "(:$1)": kvar(":$1"),
		"x @(a) @(a -> [b])": typed(x, "a; a -> [b]"), "(:) @(Int)": typed(kcon(":"), "Int"),
		"5": kint(5), "-5": kint(-5), "9223372036854775807": kint(api.MaxInt), "-9223372036854775808": kint(-api.MaxInt - 1),
		"'a'": kchar('a'), `'\''`: kchar('\''), `'\\'`: kchar('\\'), `'"'`: kchar('"'), "' '": kchar(' '), "'~'": kchar('~'), `'\x7f'`: kchar(127), `'\x1f'`: kchar(31), `'\x00'`: kchar(0), `'\x0a'`: kchar(10), `'\xff'`: kchar(255), `'\x80'`: kchar(128),
		"f x 1":                 kapp(f, x, kint(1)),
		"f (f x)":               kapp(f, kapp(f, x)),
		"f (-1) 'a'":            kapp(f, kint(-1), kchar('a')),
		"(-1) x":                kapp(kint(-1), x),
		"1 2":                   kapp(kint(1), kint(2)),
		`(\x -> x) (\f -> f x)`: kapp(klam("x", x), klam("f", kapp(f, x))),
		"(let { x = 1 } in x) (let { x = 1 } in x)":                       kapp(klet(x, bind("x", kint(1))), klet(x, bind("x", kint(1)))),
		"(case x of { _ -> x }) (case x of { _ -> x })":                   kapp(kcase(x, other(x)), kcase(x, other(x))),
		"f @(a) (x @(b)) (C @(a))":                                        kapp(typed(f, "a"), typed(x, "b"), typed(kcon("C"), "a")),
		"(x :: a) (x :: b)":                                               kapp(ksig(x, "a"), ksig(x, "b")),
		`\x -> \(+) -> x`:                                                 klam("x +", x),
		`\(x :: [a]) -> x`:                                                typed(klam("x", x), "[a]"),
		`\((+) :: a -> b) -> x`:                                           typed(klam("+", x), "a -> b"),
		"let { x = 1 ; f = f } in f x":                                    klet(kapp(f, x), bind("x", kint(1)), bind("f", f)),
		"let { plain x :: forall a. C a => a = 1 ; (+) :: Int = x } in x": klet(x, plain(signed(bind("x", kint(1)), "forall a. C a => a")), signed(bind("+", x), "Int")),
		"let { plain x = 1 } in x":                                        klet(x, plain(bind("x", kint(1)))),
		"let { x = let { f = 1 } in f } in let { f = 2 } in f":            klet(klet(f, bind("f", kint(2))), bind("x", klet(f, bind("f", kint(1))))),
		"case x :: [Int] of { (M.:+) x (+) -> x ; _ -> f x } :: a -> b":   typed(kcase(x, acon("M.:+ x +", x), other(kapp(f, x))), "[Int]; a -> b"),
		"case -1 of { -1 -> -2 ; 0 -> 0 }":                                kcase(kint(-1), aint(-1, kint(-2)), aint(0, kint(0))),
		`case x of { 'a' -> 1 ; '\x00' -> 2 ; '\'' -> 3 }`:                kcase(x, achar('a', kint(1)), achar(0, kint(2)), achar('\'', kint(3))),
		`case \x -> x of { _ -> case x of { _ -> f } }`:                   kcase(klam("x", x), other(kcase(x, other(f)))),
		"(x :: forall (f :: * -> *). f Int)":                              ksig(x, "forall (f :: * -> *). f Int"),
		`(\x -> x :: a)`:                                                  ksig(klam("x", x), "a"),
		"(-1 :: Int)":                                                     ksig(kint(-1), "Int"),
		"((x :: a) :: b)":                                                 ksig(ksig(x, "a"), "b"),
	} {
		if got := Print(e); got != want {
			t.Errorf("%s\nwant\n%s", got, want)
		}
	}
	if got := Print(typed(ksig(x, "a"), "b; c")); got != "(x :: a)" {
		t.Error(got)
	}
}

// P13.5: texts are on one line, and determine the expression but for the Types of signatures.
func TestPrintOfRandom(t *testing.T) {
	texts := map[string]api.Kernel{}
	eachRandom(t, 3000, func(r maker, e api.Kernel) {
		own := clone(e)
		visit(&own, func(node *api.Kernel) bool {
			if node.Op == api.KSig {
				node.Types = nil
			}
			return true
		})
		text := Print(e)
		if earlier, ok := texts[text]; text == "" || strings.Contains(text, "\n") || ok && !Same(earlier, own) {
			t.Errorf("the text %s", text)
		}
		texts[text] = own
	})
	if len(texts) < 1000 {
		t.Error(fmt.Sprint(len(texts), " texts"))
	}
}
