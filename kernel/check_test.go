package kernel

import (
	"reflect"
	"slices"
	"strings"
	"testing"

	"lazyc/api"
)

// words returns the parts of lists that are separated by blanks.
func words(lists ...string) []string { return strings.Fields(strings.Join(lists, " ")) }

const (
	varNames = "x x' _x + . $ x$0 x$1 +$0 M.x M.+ M.x$0 M.x$7 M.+$1 C$1 C$2 :$1 :+$9 M.C$1 M.:$3 fail raise"
	conNames = "C C' : :+ C$0 :$0 M.C M.: M.C$0 M.:+$0 [] () (,) (,,) (,,,) (,,,,) (,,,,,) (,,,,,,)"
	noNames  = "_ where -- = -> M.where x$01 x$ $1 x.y m.x M.N.x x+ (,,,,,,,) ( ) [ ] (->) (+) []$0 ()$1 M.() 1 where$1 _$1 M._ C$01"
)

// allNames returns names of all sorts, and strings that are none.
func allNames() []string {
	long := strings.Repeat("x", api.MaxName)
	return append(words(varNames, conNames, noNames), "", " ", "x y", "( )", "\n", long+"x", "M."+long+"x")
}

// P13.1: the names of variables and constructors, in every place.
func TestNames(t *testing.T) {
	variables, constructors := words(varNames), words(conNames)
	for what, place := range map[string]struct {
		good []string
		with func(name string) api.Kernel
	}{
		"KVar": {variables, kvar},
		"KCon": {constructors, kcon},
		"KLam": {variables, func(name string) api.Kernel { return api.Kernel{Op: api.KLam, Name: name, Kids: []api.Kernel{kint(1)}} }},
		"KLet": {variables, func(name string) api.Kernel { return klet(kint(1), bind("y", kint(1)), bind(name, kint(1))) }},
		"AltCon": {constructors, func(name string) api.Kernel {
			return kcase(kint(1), api.KAlt{Op: api.AltCon, Name: name, Body: kint(1)})
		}},
		"Vars": {variables, func(name string) api.Kernel {
			return kcase(kint(1), api.KAlt{Op: api.AltCon, Name: "C", Vars: []string{"y", name}, Body: kint(1)})
		}},
	} {
		for _, name := range allNames() {
			want := api.ErrArg
			if slices.Contains(place.good, name) {
				want = api.OK
			}
			if got := Check(place.with(name)); got != want {
				t.Errorf("%s with the name %q: error %d, want %d", what, name, got, want)
			}
		}
	}
	if long := strings.Repeat("x", api.MaxName); Check(kvar(long)) != api.OK || Check(kvar("M."+long+"$1")) != api.OK {
		t.Error("long names")
	}
}

// everyForm has an expression of each form, with all its annotations.
func everyForm() map[string]api.Kernel {
	return map[string]api.Kernel{
		"KVar":    typed(kvar("x"), "a; [a]"),
		"KCon":    typed(kcon("C"), "a; Int"),
		"KInt":    kint(5),
		"KChar":   kchar(255),
		"KApp":    kapp(kvar("f"), kint(1)),
		"KLam":    typed(klam("x", kvar("x")), "Int"),
		"KLet":    klet(kvar("x"), plain(signed(bind("x", kint(1)), "Int")), bind("y", kvar("x"))),
		"AltCon":  typed(kcase(kvar("x"), acon("C x y", kvar("x")), acon("D", kvar("y")), other(kint(1))), "T; Int"),
		"AltInt":  kcase(kvar("x"), aint(0, kvar("x")), aint(-1, kvar("x")), other(kint(1))),
		"AltChar": kcase(kvar("x"), achar(0, kvar("x")), achar(255, kvar("x"))),
		"default": kcase(kvar("x"), other(kvar("x"))),
		"KSig":    typed(ksig(kvar("x"), "forall a. C a => a -> a"), "Int"),
	}
}

// setField sets one field of a node, and reports whether it was zero.
func setField(e *api.Kernel, i int) bool {
	field := reflect.ValueOf(e).Elem().Field(i)
	isZero := field.IsZero()
	switch field.Kind() {
	case reflect.String:
		field.SetString("x")
	case reflect.Int:
		field.SetInt(1)
	case reflect.Slice:
		field.Set(reflect.ValueOf([]any{[]api.Kernel{kint(1)}, []api.KBind{bind("x", kint(1))}, []api.KAlt{other(kint(1))},
			[]api.Scheme{sch("a")}, []api.Type{ty("a")}}[i-3]))
	}
	return isZero
}

// P13.1: every form is well formed, without the fields that belong to others.
func TestForms(t *testing.T) {
	for what, e := range everyForm() {
		if code := Check(e); code != api.OK {
			t.Errorf("%s: error %d", what, code)
		}
		bare := clone(e)
		bare.Types = nil
		if code := Check(bare); code != api.OK {
			t.Errorf("%s without types: error %d", what, code)
		}
		for i := 1; i < reflect.TypeFor[api.Kernel]().NumField(); i++ {
			changed := clone(e)
			mayHave := e.Op == api.KInt && i == 2 || e.Op == api.KChar && i == 2
			if setField(&changed, i) && !mayHave && Check(changed) != api.ErrArg {
				t.Errorf("%s with the field %s", what, reflect.TypeFor[api.Kernel]().Field(i).Name)
			}
		}
	}
}

// P13.1: what is not well formed.
func TestInvalid(t *testing.T) {
	bad := api.Type{Op: api.TVar, Name: "A"}
	badScheme := api.Scheme{Vars: []api.TyVar{{Name: "a"}, {Name: "a"}}, Type: ty("a")}
	two := []api.Type{ty("a"), ty("a")}
	with := func(e api.Kernel, change func(*api.Kernel)) api.Kernel {
		change(&e)
		return e
	}
	x := kvar("x")
	alt := func(a api.KAlt) api.Kernel { return kcase(x, a) }
	for what, e := range map[string]api.Kernel{
		"no form": {}, "unknown form": {Op: 10}, "negative form": {Op: -1},
		"variable's type":  with(x, func(e *api.Kernel) { e.Types = []api.Type{ty("a"), bad} }),
		"char -1":          kchar(-1),
		"char 256":         kchar(256),
		"app of one":       {Op: api.KApp, Kids: []api.Kernel{x}},
		"app of three":     {Op: api.KApp, Kids: []api.Kernel{x, x, x}},
		"app of bad":       kapp(x, kchar(256)),
		"lambda of none":   {Op: api.KLam, Name: "x"},
		"lambda of two":    {Op: api.KLam, Name: "x", Kids: []api.Kernel{x, x}},
		"lambda of bad":    klam("x", api.Kernel{}),
		"lambda's types":   with(klam("x", x), func(e *api.Kernel) { e.Types = two }),
		"lambda's type":    with(klam("x", x), func(e *api.Kernel) { e.Types = []api.Type{bad} }),
		"let of none":      klet(x),
		"let without body": {Op: api.KLet, Binds: []api.KBind{bind("x", x)}},
		"let of two":       {Op: api.KLet, Binds: []api.KBind{bind("x", x)}, Kids: []api.Kernel{x, x}},
		"let twice":        klet(x, bind("x", x), bind("y", x), bind("x", x)),
		"let's body":       klet(x, bind("x", x), bind("y", kint(0)), bind("z", api.Kernel{})),
		"let's kid":        klet(api.Kernel{}, bind("x", x)),
		"let's signatures": klet(x, api.KBind{Name: "x", Sigs: []api.Scheme{sch("a"), sch("a")}, Body: x}),
		"let's signature":  klet(x, api.KBind{Name: "x", Sigs: []api.Scheme{badScheme}, Body: x}),
		"case of none":     {Op: api.KCase, Alts: []api.KAlt{other(x)}},
		"case of two":      {Op: api.KCase, Kids: []api.Kernel{x, x}, Alts: []api.KAlt{other(x)}},
		"no alternative":   kcase(x),
		"case's type":      with(alt(other(x)), func(e *api.Kernel) { e.Types = two[:1] }),
		"case's types":     with(alt(other(x)), func(e *api.Kernel) { e.Types = append(two, two...) }),
		"case's bad type":  with(alt(other(x)), func(e *api.Kernel) { e.Types = []api.Type{ty("a"), bad} }),
		"case's kid":       kcase(api.Kernel{}, other(x)),
		"case's body":      kcase(x, aint(1, x), other(api.Kernel{})),
		"no alternative's": alt(api.KAlt{Body: x}),
		"unknown's":        alt(api.KAlt{Op: 5, Body: x}),
		"con with N":       alt(api.KAlt{Op: api.AltCon, Name: "C", N: 1, Body: x}),
		"con's vars":       alt(acon("C x y x", x)),
		"int with name":    alt(api.KAlt{Op: api.AltInt, Name: "C", Body: x}),
		"int with vars":    alt(api.KAlt{Op: api.AltInt, Vars: []string{"x"}, Body: x}),
		"char with name":   alt(api.KAlt{Op: api.AltChar, Name: "C", Body: x}),
		"char alt -1":      alt(achar(-1, x)),
		"char alt 256":     alt(achar(256, x)),
		"default's name":   alt(api.KAlt{Op: api.AltDefault, Name: "C", Body: x}),
		"default's N":      alt(api.KAlt{Op: api.AltDefault, N: 1, Body: x}),
		"default's vars":   alt(api.KAlt{Op: api.AltDefault, Vars: []string{"x"}, Body: x}),
		"default first":    kcase(x, other(x), aint(1, x)),
		"two defaults":     kcase(x, aint(1, x), other(x), other(x)),
		"mixed":            kcase(x, aint(1, x), achar(1, x)),
		"mixed with con":   kcase(x, acon("C", x), aint(1, x), other(x)),
		"con twice":        kcase(x, acon("C", x), acon("D", x), acon("C x", x)),
		"int twice":        kcase(x, aint(1, x), aint(2, x), aint(1, x)),
		"char twice":       kcase(x, achar(1, x), achar(1, x)),
		"sig of none":      {Op: api.KSig, Sigs: []api.Scheme{sch("a")}},
		"sig without sig":  {Op: api.KSig, Kids: []api.Kernel{x}},
		"two sigs":         {Op: api.KSig, Kids: []api.Kernel{x}, Sigs: []api.Scheme{sch("a"), sch("a")}},
		"bad sig":          {Op: api.KSig, Kids: []api.Kernel{x}, Sigs: []api.Scheme{badScheme}},
		"sig's type":       with(ksig(x, "a"), func(e *api.Kernel) { e.Types = []api.Type{bad} }),
	} {
		if code := Check(e); code != api.ErrArg {
			t.Errorf("%s: error %d", what, code)
		}
		checkZero(t, what, e)
	}
}

// checkZero checks the results for an expression that is not valid.
func checkZero(t *testing.T, what string, e api.Kernel) {
	t.Helper()
	isZero := func(e api.Kernel) bool { return reflect.DeepEqual(e, api.Kernel{}) }
	if len(Free(e)) > 0 || Alpha(e, e) || !isZero(Rename(e, "x", "y")) || !isZero(Erase(e)) || Print(e) != "" || len(Groups([]api.KBind{bind("a", kint(1)), bind("x", e)})) > 0 {
		t.Errorf("%s: a result that is not zero", what)
	}
	if !Same(e, clone(e)) {
		t.Errorf("%s is not the same", what)
	}
}

// P13.1: names and numbers of alternatives are compared together, and default alternatives may stand alone.
func TestAlternatives(t *testing.T) {
	x := kvar("x")
	for _, e := range []api.Kernel{
		kcase(x, acon("C", x), acon("D", x)), kcase(x, acon("C x", x), acon("D x", x), other(x)), kcase(x, achar(0, x), achar(1, x)),
		kcase(x, aint(0, x), other(x)), kcase(x, other(x)), kcase(x, acon("C", x)), kcase(x, achar(0, x), other(x)),
	} {
		if code := Check(e); code != api.OK {
			t.Errorf("%s: error %d", Print(e), code)
		}
	}
}

// chain returns an expression of n nodes below each other.
func chain(n int) api.Kernel {
	e := kint(1)
	for range n - 1 {
		e = klam("x", e)
	}
	return e
}

// wide returns an expression of n nodes, all but one of them bodies of bindings or alternatives, or the only kid.
func wide(n int) api.Kernel {
	e := api.Kernel{Op: api.KCase, Kids: []api.Kernel{kint(1)}}
	for i := range n - 2 {
		e.Alts = append(e.Alts, aint(i, kint(1)))
	}
	return e
}

// P13.1: the limits, and the order of the errors.
func TestLimits(t *testing.T) {
	bad := wide(api.MaxTerm + 1)
	bad.Alts[5].Op = api.AltChar
	deepBad := chain(api.MaxTerm + 1)
	deepBad.Kids[0].Name = "C"
	for what, test := range map[string]struct {
		e    api.Kernel
		size int
		want api.Errno
	}{
		"deep":              {chain(api.MaxNest), api.MaxNest, api.OK},
		"too deep":          {chain(api.MaxNest + 1), api.MaxNest + 1, api.ErrDepth},
		"long":              {wide(api.MaxTerm), api.MaxTerm, api.OK},
		"too long":          {wide(api.MaxTerm + 1), api.MaxTerm + 1, api.ErrLong},
		"too long and deep": {chain(api.MaxTerm + 1), api.MaxTerm + 1, api.ErrLong},
		"bad and too long":  {bad, api.MaxTerm + 1, api.ErrArg},
		"bad and all":       {deepBad, api.MaxTerm + 1, api.ErrArg},
	} {
		if got := Check(test.e); got != test.want {
			t.Errorf("%s: error %d, want %d", what, got, test.want)
		}
		if got := Size(test.e); got != test.size {
			t.Errorf("%s: the size %d", what, got)
		}
		count := 0
		for range All(test.e) {
			count++
		}
		if count != test.size {
			t.Errorf("%s: All has %d", what, count)
		}
	}
	for _, e := range []api.Kernel{chain(api.MaxNest + 1), wide(api.MaxTerm + 1)} {
		if len(Free(e)) > 0 || Alpha(e, e) || Print(e) != "" || Erase(e).Op != 0 || Rename(e, "x", "y").Op != 0 || !Same(e, e) {
			t.Error("a result for an expression beyond the limits")
		}
	}
}

// P13.1: the example, and each part counted once, in order.
func TestSizeAndAll(t *testing.T) {
	if size := Size(klet(kvar("x"), bind("x", kint(1)))); size != 3 {
		t.Errorf("the size %d", size)
	}
	e := klet(kapp(kint(4), kint(5)), bind("x", kcase(kint(1), aint(0, kint(2)), other(klam("y", kint(3))))), bind("y", kchar(0)))
	if size := Size(e); size != 10 {
		t.Errorf("the size %d", size)
	}
	var got []api.Kernel
	for node := range All(e) {
		got = append(got, node)
	}
	first := e.Binds[0].Body
	want := []api.Kernel{e, first, kint(1), kint(2), klam("y", kint(3)), kint(3), kchar(0), e.Kids[0], kint(4), kint(5)}
	if !slices.EqualFunc(got, want, func(a, b api.Kernel) bool { return reflect.DeepEqual(a, b) }) {
		t.Errorf("All: %v", got)
	}
	// A tree of any form: bindings, then kids, then alternatives.
	odd := api.Kernel{Op: 99, Alts: []api.KAlt{{Body: kint(3)}}, Kids: []api.Kernel{kint(2), {Binds: []api.KBind{{Body: kint(5)}}}}, Binds: []api.KBind{{Body: kint(1)}}}
	var order []int
	for node := range All(odd) {
		order = append(order, node.N)
	}
	if !slices.Equal(order, []int{0, 1, 2, 0, 5, 3}) || Size(odd) != 6 || Size(api.Kernel{}) != 1 {
		t.Errorf("All: %v, size %d", order, Size(odd))
	}
}

// P13.1: All ends where its user ends it, can be used again, and neither changes nor keeps its argument.
func TestAllStops(t *testing.T) {
	eachRandom(t, 300, func(r maker, e api.Kernel) {
		before := clone(e)
		var list []any
		all := All(e)
		for node := range all {
			list = append(list, node)
		}
		if len(list) != Size(e) {
			t.Errorf("%d nodes of %d", len(list), Size(e))
		}
		stop := r.Intn(len(list)) + 1
		seen := 0
		for node := range all {
			if !reflect.DeepEqual(node, list[seen]) {
				t.Error("a different node")
			}
			if seen++; seen == stop {
				break
			}
		}
		if seen != stop {
			t.Errorf("stopped at %d, not at %d", seen, stop)
		}
		checkApart(t, "All", append(list, e)...)
		if e.Kids != nil {
			e.Kids[0] = kint(99)
			for node := range all {
				if !reflect.DeepEqual(node, before) {
					t.Error("All keeps its argument")
				}
				break
			}
		}
	})
}
