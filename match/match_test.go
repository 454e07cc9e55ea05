package match

import (
	"reflect"
	"strings"
	"testing"

	"lazyc/api"
	"lazyc/fixity"
	"lazyc/kernel"
	"lazyc/names"
	"lazyc/parser"
	"lazyc/syntax"
)

// pat returns the pattern with a text; fail ends the test.
func pat(t *testing.T, text string) api.Pat {
	t.Helper()
	p, fault := parser.Pat(text)
	if fault == (api.Fault{}) {
		p, fault = fixity.Pat(nil, p)
	}
	if fault != (api.Fault{}) {
		t.Fatal(text, fault)
	}
	return p
}

// pats returns patterns, which are separated by semicolons.
func pats(t *testing.T, text string) []api.Pat {
	t.Helper()
	var list []api.Pat
	for _, part := range strings.Split(text, ";") {
		list = append(list, pat(t, part))
	}
	return list
}

func data(name string, cons ...api.Con) api.Data { return api.Data{Name: name, Cons: cons} }

// con returns a constructor with fields of the type Int; the names of its labels are separated by blanks.
func con(name string, fields int, labels string) api.Con {
	c := api.Con{Name: name, Labels: strings.Fields(labels)}
	for range fields {
		c.Fields = append(c.Fields, api.Type{Op: api.TCon, Name: "Int"})
	}
	return c
}

func vint(n int) api.Value  { return api.Value{Op: api.VInt, N: n} }
func vchar(n int) api.Value { return api.Value{Op: api.VChar, N: n} }
func vcon(name string, kids ...api.Value) api.Value {
	return api.Value{Op: api.VCon, Name: name, Kids: kids}
}

var (
	cut = api.Value{Op: api.VCut}
	bad = api.Value{Op: api.VBad, Set: api.ExcSet{All: true}}
	no  = api.Value{Op: api.VBad, Set: api.ExcSet{List: []api.Exc{{Con: "NoMatch"}}}}
)

func vlist(list ...api.Value) api.Value {
	v := vcon("[]")
	for i := range list {
		v = vcon(":", list[len(list)-1-i], v)
	}
	return v
}

func kint(n int) api.Kernel { return api.Kernel{Op: api.KInt, N: n} }

// P14.2: each form of patterns against each sort of values.
func TestMatches(t *testing.T) {
	five := vint(5)
	pair := func(a, b api.Value) api.Value { return vcon("(,)", a, b) }
	for _, test := range []struct {
		pat    string
		value  api.Value
		want   string // yes, no, or unknown
		values []api.Value
	}{
		{"(x, 1)", pair(five, vint(1)), "yes", []api.Value{five}},
		{"(x, 1)", pair(five, vint(2)), "no", nil},
		{"(x, 1)", pair(five, cut), "unknown", nil},
		{"x", five, "yes", []api.Value{five}}, {"x", bad, "yes", []api.Value{bad}}, {"_", cut, "yes", nil}, {"x", api.Value{}, "yes", []api.Value{{}}},
		{"5", five, "yes", nil}, {"5", vint(4), "no", nil}, {"5", vchar(5), "no", nil}, {"5", bad, "unknown", nil}, {"5", cut, "unknown", nil}, {"-5", vint(-5), "yes", nil},
		{"5", api.Value{Op: api.VFun}, "no", nil}, {"5", api.Value{N: 5}, "no", nil}, {"5", vcon("5"), "no", nil},
		{"'a'", vchar('a'), "yes", nil}, {"'a'", vint('a'), "no", nil}, {"'a'", vchar('b'), "no", nil}, {"'a'", bad, "unknown", nil}, {"'a'", api.Value{Op: api.VFun}, "no", nil},
		{"True", vcon("True"), "yes", nil}, {"True", vcon("False"), "no", nil}, {"True", bad, "unknown", nil}, {"True", cut, "unknown", nil}, {"True", vint(0), "no", nil},
		{"True", api.Value{Op: api.VFun, Name: "True"}, "no", nil}, {"True {}", api.Value{Op: api.VFun, Name: "True"}, "no", nil}, {"C {l = x}", api.Value{Name: "C"}, "no", nil},
		{"True", vcon("True", five), "no", nil}, {"C x", vcon("C"), "no", nil}, {"C x y", vcon("C", five, cut), "yes", []api.Value{five, cut}},
		{"C 1 2", vcon("C", vint(2), cut), "no", nil}, {"C 1 2", vcon("C", cut, vint(1)), "unknown", nil}, {"C 1 2", vcon("C", vint(1), bad), "unknown", nil}, {"C 1 2", vcon("C", vint(1), vint(2)), "yes", nil},
		{"()", vcon("()"), "yes", nil}, {"(x, y, z)", vcon("(,,)", five, bad, cut), "yes", []api.Value{five, bad, cut}}, {"(x, y)", vcon("(,,)", five, five, five), "no", nil},
		{"[]", vlist(), "yes", nil}, {"[x, y]", vlist(five, cut), "yes", []api.Value{five, cut}}, {"[x]", vlist(five, five), "no", nil}, {"[x]", vlist(), "no", nil},
		{"[1, x]", vcon(":", vint(2), cut), "no", nil}, {"[1, x]", vcon(":", vint(1), cut), "unknown", nil}, {"x : y", vlist(five), "yes", []api.Value{five, vlist()}},
		{`"ab"`, vlist(vchar('a'), vchar('b')), "yes", nil}, {`"ab"`, vlist(vchar('a')), "no", nil}, {`"ab"`, vlist(vchar('a'), vchar('b'), vchar('c')), "no", nil},
		{`"ab"`, vcon(":", vchar('a'), bad), "unknown", nil}, {`"ab"`, vcon(":", vchar('c'), bad), "no", nil}, {`""`, vlist(), "yes", nil}, {`"\xff"`, vlist(vchar(255)), "yes", nil},
		{"x@5", five, "yes", []api.Value{five}}, {"x@5", vint(4), "no", nil}, {"x@5", cut, "unknown", nil}, {"x@(y, z)", pair(five, cut), "yes", []api.Value{pair(five, cut), five, cut}},
		{"x@y@z", bad, "yes", []api.Value{bad, bad, bad}},
		{"~(x, y)", bad, "yes", []api.Value{cut, cut}}, {"~(x, y)", pair(five, bad), "yes", []api.Value{five, bad}}, {"~(x, y)", vint(1), "yes", []api.Value{no, no}},
		{"~(x, 1)", pair(five, vint(2)), "yes", []api.Value{no}}, {"~(x, 1)", pair(five, cut), "yes", []api.Value{cut}}, {"~(x@1)", vint(2), "yes", []api.Value{no}},
		{"~5", cut, "yes", nil}, {"~x", cut, "yes", []api.Value{cut}}, {"(~5, 1)", pair(bad, vint(1)), "yes", nil},
		{"(~(x, ~(y, 1)), z)", pair(pair(five, pair(five, cut)), bad), "yes", []api.Value{five, cut, bad}},
		{"(~(x, ~(y, 1)), z)", pair(pair(five, pair(five, five)), bad), "yes", []api.Value{five, no, bad}},
		{"(~(x, y), 1)", pair(bad, vint(2)), "no", nil},
		{"(x, x)", pair(five, cut), "yes", []api.Value{five, cut}},
		{"C {}", vcon("C"), "yes", nil}, {"C {}", vcon("C", five, bad), "yes", nil}, {"C {}", vcon("D"), "no", nil}, {"C {}", bad, "unknown", nil}, {"C {}", cut, "unknown", nil}, {"C {}", five, "no", nil},
		{"C {l = x}", vcon("C", five), "unknown", nil}, {"C {l = x}", vcon("D", five), "no", nil}, {"C {l = x}", bad, "unknown", nil}, {"C {l = x}", cut, "unknown", nil}, {"C {l = x}", five, "no", nil},
		{"~(C {l = x})", vcon("C", five), "yes", []api.Value{cut}}, {"~(C {l = x})", vcon("D"), "yes", []api.Value{no}},
		{"(C {l = x}, 1)", pair(vcon("C", five), vint(2)), "unknown", nil}, {"(1, C {l = x})", pair(vint(2), vcon("C")), "no", nil},
	} {
		p := pat(t, test.pat)
		values, ok, known := Matches(p, test.value)
		want := map[string][2]bool{"yes": {true, true}, "no": {false, true}, "unknown": {false, false}}[test.want]
		if ok != want[0] || known != want[1] || len(values) != len(test.values) {
			t.Errorf("%s against %v: %v %v %v, want %s %v", test.pat, test.value, values, ok, known, test.want, test.values)
			continue
		}
		for i := range values {
			if !reflect.DeepEqual(normal(values[i]), normal(test.values[i])) {
				t.Errorf("%s against %v: %v, want %v", test.pat, test.value, values, test.values)
			}
		}
		checkApart(t, test.pat, values, p, test.value)
	}
}

// normal returns a value without empty slices.
func normal(v api.Value) api.Value {
	var kids []api.Value
	for _, kid := range v.Kids {
		kids = append(kids, normal(kid))
	}
	v.Kids = kids
	if len(v.Set.List) == 0 {
		v.Set.List = nil
	}
	return v
}

// places notes where the slices of a value begin; it reports whether none of them was noted before.
func places(v reflect.Value, found map[uintptr]bool) bool {
	ok := true
	switch v.Kind() {
	case reflect.Struct:
		for i := range v.NumField() {
			ok = places(v.Field(i), found) && ok
		}
	case reflect.Slice:
		if v.Cap() > 0 {
			ok = !found[v.Pointer()]
			found[v.Pointer()] = true
		}
		for i := range v.Len() {
			ok = places(v.Index(i), found) && ok
		}
	}
	return ok
}

// checkApart checks that a result shares no memory with arguments, or within itself.
func checkApart(t *testing.T, what string, result any, args ...any) {
	t.Helper()
	found := map[uintptr]bool{}
	for _, arg := range args {
		places(reflect.ValueOf(arg), found)
	}
	if !places(reflect.ValueOf(result), found) {
		t.Errorf("%s: memory is shared", what)
	}
}

// badPats returns patterns that are not well formed, or not resolved.
func badPats() map[string]api.Pat {
	x, one := api.Pat{Op: api.PVar, Name: "x"}, api.Pat{Op: api.PInt, N: 1}
	deep := x
	for range api.MaxDepth {
		deep = api.Pat{Op: api.PLazy, Kids: []api.Pat{deep}}
	}
	long := api.Pat{Op: api.PList, Kids: make([]api.Pat, api.MaxString+1)}
	for i := range long.Kids {
		long.Kids[i] = x
	}
	return map[string]api.Pat{
		"none":      {},
		"unknown":   {Op: 14},
		"infix":     {Op: api.PInfix, Names: []string{":"}, Kids: []api.Pat{x, x}},
		"paren":     {Op: api.PParen, Kids: []api.Pat{x}},
		"inner":     {Op: api.PTuple, Kids: []api.Pat{one, {Op: api.PParen, Kids: []api.Pat{x}}}},
		"lazy":      {Op: api.PLazy, Kids: []api.Pat{{Op: api.PInfix, Names: []string{":"}, Kids: []api.Pat{x, x}}}},
		"variable":  {Op: api.PVar, Name: "X"},
		"char":      {Op: api.PChar, N: 256},
		"as":        {Op: api.PAs, Name: "x"},
		"tuple":     {Op: api.PTuple, Kids: []api.Pat{x}},
		"record":    {Op: api.PRecord, Name: "C", Names: []string{"l"}},
		"zero":      {Op: api.PCon, Name: "C", Kids: []api.Pat{{}}},
		"too deep":  deep,
		"too long":  long,
		"least int": {Op: api.PInt, N: -api.MaxInt - 1},
	}
}

// P14.2: patterns that are not well formed.
func TestMatchesOfBadPatterns(t *testing.T) {
	for what, p := range badPats() {
		for _, v := range []api.Value{cut, bad, vint(1), vcon("(,)", vint(2), vint(2)), {}} {
			if values, ok, known := Matches(p, v); len(values) > 0 || ok || known {
				t.Errorf("%s: %v %v %v", what, values, ok, known)
			}
		}
	}
}

// P14.3: the first row that matches.
func TestFirst(t *testing.T) {
	tr, fa := vcon("True"), vcon("False")
	for _, test := range []struct {
		rows   string // separated by bars
		values []api.Value
		want   int
		ok     bool
	}{
		{"True; _ | _; False", []api.Value{fa, fa}, 1, true},
		{"True; _ | _; False", []api.Value{tr, cut}, 0, true},
		{"True; _ | _; False", []api.Value{fa, tr}, 0, false},
		{"True; _ | _; False", []api.Value{bad, fa}, 0, false},
		{"True; _ | _; False | x; y", []api.Value{fa, bad}, 0, false},
		{"_; False | x; y", []api.Value{bad, tr}, 1, true},
		{"True; 1 | True; 2 | True; _", []api.Value{fa, bad}, 0, false},
		{"1; 'a' | 2; 'a' | 2; 'b'", []api.Value{vint(2), vchar('b')}, 2, true},
		{"x; y | True; True", []api.Value{cut, cut}, 0, true},
		{"True; _ | False", []api.Value{tr, tr}, 0, false},
		{"True | False; _", []api.Value{tr}, 0, false},
		{"True | False", nil, 0, false},
	} {
		var rows []api.Row
		for _, text := range strings.Split(test.rows, "|") {
			rows = append(rows, api.Row{Pats: pats(t, text)})
		}
		if i, ok := First(rows, test.values); i != test.want || ok != test.ok {
			t.Errorf("First of %s for %v: %d %v", test.rows, test.values, i, ok)
		}
	}
	if i, ok := First(nil, nil); i != 0 || ok {
		t.Error("First without rows")
	}
	if i, ok := First([]api.Row{{}, {}}, nil); i != 0 || !ok {
		t.Error("First without values")
	}
	for what, p := range badPats() {
		rows := []api.Row{{Pats: []api.Pat{pat(t, "1"), p}}, {Pats: pats(t, "_; _")}}
		if i, ok := First(rows, []api.Value{vint(2), cut}); i != 1 || !ok {
			t.Errorf("%s after a pattern that does not match: %d %v", what, i, ok)
		}
		if i, ok := First(rows, []api.Value{vint(1), cut}); i != 0 || ok {
			t.Errorf("%s: %d %v", what, i, ok)
		}
	}
}

// testDatas are data types with labels, and with the names of built-in constructors.
func testDatas() []api.Data {
	return []api.Data{
		data("T", con("A", 0, ""), con("B", 2, "l m"), con("C", 3, "l n l")),
		data("U", con("D", 1, "k"), con("A", 5, ""), con("E", 0, "")),
		data("P", con("(,,)", 2, "")), data("L", con("Cons", 1, ""), con("[]", 1, "")),
	}
}

// P14.1: the faults, in their order.
func TestFaults(t *testing.T) {
	for _, test := range []struct {
		vars, rows string
		code       api.Errno
		name       string
	}{
		{"v", "x", api.OK, ""},
		{"v w", "x", api.ErrArity, ""},
		{"v", "x; y", api.ErrArity, ""},
		{"v", "x | Q | y; z", api.ErrScope, "Q"},
		{"v", "x | y; z | Q", api.ErrArity, ""},
		{"v v", "x; y", api.ErrArg, ""},
		{"v", "Q", api.ErrScope, "Q"},
		{"v", "Q {}", api.ErrScope, "Q"},
		{"v", "A x", api.ErrArity, "A"},
		{"v", "A", api.OK, ""},
		{"v", "B x", api.ErrArity, "B"},
		{"v", "B x y", api.OK, ""},
		{"v", "B (Q Z) R", api.ErrScope, "Q"},
		{"v", "B (Q Z)", api.ErrArity, "B"},
		{"v", "x@(~(D Q))", api.ErrScope, "Q"},
		{"v w", "D A; Q", api.ErrScope, "Q"},
		{"v w", "D (A x); Q", api.ErrArity, "A"},
		{"v", "(x, Q)", api.ErrScope, "Q"},
		{"v", "(x, y, z)", api.ErrArity, "(,,)"},
		{"v", "(x, y, z, w)", api.OK, ""},
		{"v", "[]", api.ErrArity, "[]"},
		{"v", "[x, Q]", api.ErrScope, "Q"},
		{"v", "[x, y]", api.ErrArity, "[]"},
		{"v", `"ab"`, api.ErrArity, "[]"},
		{"v", `""`, api.ErrArity, "[]"},
		{"v", "x : y", api.OK, ""},
		{"v", "True", api.OK, ""},
		{"v", "True x", api.ErrArity, "True"},
		{"v", "Failure x", api.OK, ""},
		{"v", "B {}", api.OK, ""},
		{"v", "B {l = Q}", api.ErrScope, "Q"},
		{"v", "B {l = x, m = y}", api.OK, ""},
		{"v", "B {l = x, l = y}", api.ErrTwice, "l"},
		{"v", "B {l = Q, l = y}", api.ErrTwice, "l"},
		{"v", "B {l = x, k = y, l = z}", api.ErrField, "k"},
		{"v", "B {k = x, k = z}", api.ErrField, "k"},
		{"v", "C {l = x, n = z}", api.OK, ""},
		{"v", "C {l = x, l = z}", api.ErrTwice, "l"},
		{"v", "A {l = x}", api.ErrField, "l"},
		{"v", "True {l = x}", api.ErrField, "l"},
		{"v", "D {k = D {l = x}}", api.ErrField, "l"},
	} {
		var rows []api.Row
		for _, text := range strings.Split(test.rows, "|") {
			rows = append(rows, api.Row{Pats: pats(t, text), Body: kint(1)})
		}
		s := names.NewSupply(words(test.vars)...)
		e, fault := Compile(testDatas(), words(test.vars), rows, kint(2), s)
		if want := (api.Fault{Code: test.code, Name: test.name}); fault != want {
			t.Errorf("%s for %s: %v, want %v", test.rows, test.vars, fault, want)
		}
		if test.code != api.OK && (!reflect.DeepEqual(e, api.Kernel{}) || s.Fresh("v") != "v$1" || s.Fresh("fail") != "fail$1") {
			t.Errorf("%s for %s: a result, or new names", test.rows, test.vars)
		}
	}
}

func words(text string) []string { return strings.Fields(text) }

// P14.1: arguments that are not valid, before any other error.
func TestBadArguments(t *testing.T) {
	check := func(what string, vars []string, rows []api.Row, s *names.Supply) {
		t.Helper()
		if e, fault := Compile(nil, vars, rows, kint(2), s); fault != (api.Fault{Code: api.ErrArg}) || !reflect.DeepEqual(e, api.Kernel{}) {
			t.Errorf("%s: %v %v", what, e, fault)
		}
	}
	unknown := api.Row{Pats: pats(t, "Q; x; y")}
	check("nil", words("v"), []api.Row{unknown}, nil)
	check("a supply of no package", words("v"), []api.Row{unknown}, &names.Supply{})
	check("twice", words("v w v"), []api.Row{unknown}, names.NewSupply())
	check("empty", []string{"v", ""}, []api.Row{unknown}, names.NewSupply())
	check("twice without rows", words("v v"), nil, names.NewSupply())
	for what, p := range badPats() {
		check(what, words("v"), []api.Row{unknown, {Pats: []api.Pat{p}}}, names.NewSupply())
		check(what, words("v"), []api.Row{unknown, {Pats: []api.Pat{unknown.Pats[1], unknown.Pats[0], p}}}, names.NewSupply())
	}
}

// P14.1: for data types and variables that are not as they should be, there is a result or a fault.
func TestOddArguments(t *testing.T) {
	datas := []api.Data{data("T", con("A", 1, "l m"), con("B", 3, "k"), con("A", 2, ""), con("B", 3, "")), data("T")}
	for _, text := range []string{"A {l = x, m = y}", "A {m = y}", "B {k = 1}", "A x", "B 1 2 3", "B {}", "~(A {m = x})"} {
		for _, v := range []string{"v", "v$1", "M.x$1", "?", "V", "x"} {
			rows := []api.Row{{Pats: pats(t, text)}, {Pats: pats(t, "_"), Body: kint(1), Falls: true}}
			if _, fault := Compile(datas, []string{v}, rows, api.Kernel{}, names.NewSupply()); fault != (api.Fault{}) {
				t.Errorf("%s: %v", text, fault)
			}
		}
	}
}

// compiled returns the text of a result; rows are separated by bars, and a pattern from its body by an arrow. The body is a variable, or one of those that fall through: a case expression on the variable.
func compiled(t *testing.T, vars, rows string) string {
	t.Helper()
	var list []api.Row
	used := words(vars + " o")
	for _, text := range strings.Split(rows, "|") {
		left, right, _ := strings.Cut(text, "->")
		body := strings.TrimSpace(right)
		row := api.Row{Body: api.Kernel{Op: api.KVar, Name: strings.TrimSuffix(body, "?")}}
		used = append(used, row.Body.Name)
		if vars != "" {
			row.Pats = pats(t, left)
		}
		for _, p := range row.Pats {
			used = append(used, syntax.Binders(p)...)
		}
		if strings.HasSuffix(body, "?") {
			row.Falls = true
			row.Body = api.Kernel{Op: api.KApp, Kids: []api.Kernel{row.Body, {Op: api.KVar, Name: "fail"}}}
		}
		list = append(list, row)
	}
	e, fault := Compile(testDatas()[:2], words(vars), list, api.Kernel{Op: api.KVar, Name: "o"}, names.NewSupply(used...))
	if fault != (api.Fault{}) {
		t.Fatal(rows, fault)
	}
	if code := kernel.Check(e); code != api.OK {
		t.Fatal(rows, code)
	}
	return kernel.Print(e)
}

// P14.1: the results for small matrices.
func TestCompile(t *testing.T) {
	for _, test := range []struct{ vars, rows, want string }{
		{"v", "True -> a | False -> b", "case v of { True -> a ; False -> b }"},
		{"v", "False -> a | True -> b", "case v of { False -> a ; True -> b }"},
		{"v", "True -> a", "case v of { True -> a ; _ -> o }"},
		{"v", "A -> a | C _ _ _ -> b", "case v of { A -> a ; C v$1 v$2 v$3 -> b ; _ -> o }"},
		{"v", "3 -> a | 'a' -> b | -1 -> c", "case v of { 3 -> a ; _ -> case v of { 'a' -> b ; _ -> case v of { -1 -> c ; _ -> o } } }"},
		{"v", "3 -> a | -1 -> c | 3 -> d", "case v of { 3 -> a ; -1 -> c ; _ -> o }"},
		{"v", "True -> a | A -> b | False -> c", "case v of { True -> a ; _ -> case v of { A -> b ; _ -> case v of { False -> c ; _ -> o } } }"},
		{"v", "_ -> a | True -> b", "a"},
		{"v", "v -> a", "a"},
		{"v", "x -> x", "let { plain x = v } in x"},
		{"v w", "w; v -> a", "let { plain v$1 = v ; plain v$2 = w } in let { plain w = v$1 ; plain v = v$2 } in a"},
		{"v w", "v; x -> a", "let { plain x = w } in a"},
		{"v", "x@(y@_) -> a", "let { plain x = v ; plain y = v } in a"},
		{"v w", "x; x -> a", "let { plain x = w } in a"},
		{"v w", "1; 2 -> a", "let { plain fail$1 = o } in case v of { 1 -> case w of { 2 -> a ; _ -> fail$1 } ; _ -> fail$1 }"},
		{"v w", "True; x -> a | y; True -> b", "case v of { True -> let { plain x = w } in a ; _ -> case w of { True -> let { plain y = v } in b ; _ -> o } }"},
		{"v", "_ -> a? | _ -> b", "let { plain fail$1 = b } in a fail$1"},
		{"v", "x -> a? | y -> b? | z -> c", "let { plain fail$1 = let { plain fail$2 = let { plain z = v } in c } in let { plain y = v } in b fail$2 } in let { plain x = v } in a fail$1"},
		{"v", "_ -> a?", "let { plain fail$1 = o } in a fail$1"},
		{"", " -> a | -> b", "a"},
		{"", " -> a? | -> b? | -> c | -> d", "let { plain fail$1 = let { plain fail$2 = c } in b fail$2 } in a fail$1"},
		{"v", "~True -> a", "a"},
		{"v", "~(x, _) -> a", "let { plain x = case v of { (,) v$1 v$2 -> v$1 } } in a"},
		{"v", "~(x@True) -> a", "let { plain x = case v of { True -> v ; _ -> raise NoMatch } } in a"},
		{"v", "~(v@True) -> a", "let { plain v$1 = v } in let { plain v = case v$1 of { True -> v$1 ; _ -> raise NoMatch } } in a"},
		{"v", "~(~x) -> a", "let { plain x = v } in a"},
		{"v", "~(1, ~(x, 2)) -> a", "let { plain x = case v of { (,) v$1 v$2 -> case v$1 of { 1 -> case v$2 of { (,) v$3 v$4 -> case v$4 of { 2 -> v$3 ; _ -> raise NoMatch } } ; _ -> raise NoMatch } } } in a"},
		{"v", "[x, 1] -> a", "let { plain fail$1 = o } in case v of { (:) v$1 v$2 -> case v$2 of { (:) v$3 v$4 -> case v$3 of { 1 -> case v$4 of { [] -> let { plain x = v$1 } in a ; _ -> fail$1 } ; _ -> fail$1 } ; _ -> fail$1 } ; _ -> fail$1 }"},
		{"v", `"a" -> a | "" -> b`, "let { plain fail$1 = o } in case v of { (:) v$1 v$2 -> case v$1 of { 'a' -> case v$2 of { [] -> a ; _ -> fail$1 } ; _ -> fail$1 } ; [] -> b }"},
		{"v", "B {m = 1} -> a | A {} -> b | C {l = 2} -> c", "let { plain fail$1 = o } in case v of { B v$1 v$2 -> case v$2 of { 1 -> a ; _ -> fail$1 } ; A -> b ; C v$3 v$4 v$5 -> case v$3 of { 2 -> c ; _ -> fail$1 } }"},
		{"v", "D x -> a | E -> b", "case v of { D v$1 -> let { plain x = v$1 } in a ; E -> b ; _ -> o }"},
	} {
		if got := compiled(t, test.vars, test.rows); got != test.want {
			t.Errorf("%s for %s:\n%s\nwant\n%s", test.rows, test.vars, got, test.want)
		}
	}
}

// P14.1: without rows the result is the last argument.
func TestCompileWithoutRows(t *testing.T) {
	otherwise := api.Kernel{Op: api.KApp, Kids: []api.Kernel{kint(1), kint(2)}}
	e, fault := Compile(nil, words("v w"), nil, otherwise, names.NewSupply())
	if fault != (api.Fault{}) || !reflect.DeepEqual(e, otherwise) {
		t.Error(e, fault)
	}
	checkApart(t, "Compile", e, otherwise)
}

// P14.4: rows after one that is always chosen do not matter.
func TestRowsThatDoNotMatter(t *testing.T) {
	s := names.NewSupply("v", "x")
	rows := []api.Row{{Pats: pats(t, "x"), Body: kint(1)}, {Pats: pats(t, "B 1 2"), Body: kint(2)}, {Pats: pats(t, "'a'"), Body: kint(3)}}
	e, fault := Compile(testDatas(), words("v"), rows, kint(4), s)
	if got := kernel.Print(e); fault != (api.Fault{}) || got != "let { plain x = v } in 1" || s.Fresh("v") != "v$1" {
		t.Error(got, fault)
	}
}

// P14.1: the data type of a constructor is the first one that has it.
func TestFirstData(t *testing.T) {
	datas := []api.Data{data("T", con("A", 0, "")), data("Bool", con("True", 0, ""))}
	rows := []api.Row{{Pats: pats(t, "True"), Body: kint(1)}}
	e, fault := Compile(datas, words("v"), rows, kint(2), names.NewSupply("v"))
	if got := kernel.Print(e); fault != (api.Fault{}) || got != "case v of { True -> 1 }" {
		t.Error(got, fault)
	}
}

// P14.1: fail is replaced wherever it is free, and nothing is captured.
func TestFail(t *testing.T) {
	fail := api.Kernel{Op: api.KVar, Name: "fail"}
	inner := api.Kernel{Op: api.KLam, Name: "fail$1", Kids: []api.Kernel{{Op: api.KApp, Kids: []api.Kernel{fail, {Op: api.KLam, Name: "fail", Kids: []api.Kernel{fail}}}}}}
	rows := []api.Row{{Pats: pats(t, "x"), Body: inner, Falls: true}, {Pats: pats(t, "y"), Body: fail}}
	e, fault := Compile(nil, words("v"), rows, kint(2), names.NewSupply("v", "x", "y", "fail"))
	if got := kernel.Print(e); fault != (api.Fault{}) || got != `let { plain fail$1 = let { plain y = v } in fail } in let { plain x = v } in \fail$2 -> fail$1 (\fail -> fail)` {
		t.Error(got, fault)
	}
	// Without fail in its body, a row does not fall through.
	rows = []api.Row{{Pats: pats(t, "_"), Body: kint(1), Falls: true}, {Pats: pats(t, "_"), Body: kint(3)}}
	if e, _ := Compile(nil, words("v"), rows, kint(2), names.NewSupply("v")); kernel.Print(e) != "1" {
		t.Error(kernel.Print(e))
	}
}

// P14.1: bodies that are no kernel expressions do not matter for the faults.
func TestBodiesDoNotMatter(t *testing.T) {
	rows := []api.Row{{Pats: pats(t, "Q")}, {Pats: pats(t, "True")}}
	if _, fault := Compile(nil, words("v"), rows, api.Kernel{}, names.NewSupply()); fault != (api.Fault{Code: api.ErrScope, Name: "Q"}) {
		t.Error(fault)
	}
	if _, fault := Compile(nil, words("v"), rows[1:], api.Kernel{}, names.NewSupply()); fault != (api.Fault{}) {
		t.Error(fault)
	}
}
