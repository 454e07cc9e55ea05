package desugar

import (
	"math/rand"
	"slices"
	"strings"
	"testing"

	"lazyc/api"
	"lazyc/derive"
	"lazyc/fixity"
	"lazyc/kernel"
	"lazyc/kernels"
	"lazyc/parser"
	"lazyc/patterns"
	"lazyc/scope"
	"lazyc/syntax"
	"lazyc/trees"
	"lazyc/types"
)

// module returns the module with a text, resolved and without deriving clauses.
func module(t *testing.T, text string) api.Module {
	t.Helper()
	m, fault := parser.Module(text)
	if fault == (api.Fault{}) {
		m, fault = fixity.Module(nil, m)
	}
	if fault == (api.Fault{}) {
		m, fault = scope.Module(m, nil)
	}
	if fault == (api.Fault{}) {
		m, fault = derive.Module(m)
	}
	if fault != (api.Fault{}) {
		t.Fatal(text, fault)
	}
	return m
}

// bindText returns the text of a binding.
func bindText(b api.KBind) string {
	text := b.Name
	if b.Plain {
		text = "plain " + text
	}
	for _, s := range b.Sigs {
		text += " :: " + types.PrintScheme(s)
	}
	return text + " = " + kernel.Print(b.Body)
}

// listing has the bindings of a module, a line each.
func listing(k api.KModule) []string {
	lines := trees.Map(k.Binds, bindText)
	for _, inst := range k.Insts {
		for _, b := range inst.Binds {
			lines = append(lines, inst.Inst.Name+": "+bindText(b))
		}
	}
	for _, d := range k.Defaults {
		lines = append(lines, d.Class+": "+bindText(d.Bind))
	}
	return lines
}

func sigText(s api.Sig) string { return s.Name + " :: " + types.PrintScheme(s.Scheme) }

// envText describes an environment.
func envText(env api.Env) []string {
	var lines []string
	vars := func(list []api.TyVar) string {
		text := types.PrintScheme(api.Scheme{Vars: list, Type: api.Type{Op: api.TCon, Name: "T"}})
		return strings.TrimSuffix(strings.TrimPrefix(text, "forall "), "T")
	}
	for _, d := range env.Datas {
		text := "data " + d.Name + " " + vars(d.Params)
		for _, c := range d.Cons {
			text += "| " + c.Name + " " + strings.Join(trees.Map(c.Fields, types.Print), " ; ") + " " + strings.Join(c.Labels, ",")
		}
		lines = append(lines, text)
	}
	for _, c := range env.Classes {
		text := "class " + c.Name + " " + vars([]api.TyVar{c.Param}) + strings.Join(c.Supers, ",") + " | " + strings.Join(trees.Map(c.Methods, sigText), " ; ")
		lines = append(lines, text+" | "+strings.Join(c.Defaults, ","))
	}
	for _, i := range env.Insts {
		scheme := api.Scheme{Vars: i.Vars, Preds: i.Preds, Type: i.Type}
		lines = append(lines, i.Name+" "+i.Class+" "+types.PrintScheme(scheme))
	}
	lines = append(lines, trees.Map(env.Values, sigText)...)
	for _, f := range env.Fixities {
		lines = append(lines, f.Name+" "+string(rune('0'+f.Prec))+" "+string(rune('0'+int(f.Assoc))))
	}
	return lines
}

const exampleModule = `module M (f, T (..), K (m)) where
infixr 3 &&
infix 4 ==, <>
infixl 6 + , *
data T a f = A { x, y :: f a } | B { x :: f a, z :: Int } | C | Int :% a
data V a = V a deriving (Eq)
data W
class Eq a where
  (==), (<>) :: a -> a -> Bool
  x <> y = f (x == y)
class (Eq k, Super k) => K k where
  m :: Eq b => b -> k -> c
  n :: (K k, Eq k, Eq b) => k -> b
  o :: Int
class Super a
instance Eq Int where
  (==) = intEq
instance (K a, Eq a) => K (T a b) where
  n (A _ q) | y = 1 where y = True
  n _ = 2
  m b = n
(&&) :: Bool -> Bool -> Bool
True && b = b
_ && _ = False
f, g :: K a => a -> Bool
f _ = True
g = f
h = 3
(p, [q]) | f h = r where r = h
q :: Int
a + b = intAdd a b
a * b = a
w = p where { (p, _) = q }
`

// P16.1, P16.4: the bindings of a module.
func TestModule(t *testing.T) {
	m := module(t, exampleModule)
	k, fault := Module(api.Env{}, m)
	if fault != (api.Fault{}) {
		t.Fatal(fault)
	}
	want := []string{
		`M.x :: forall a f. M.T a f -> f a = \v$1 -> case v$1 of { M.A x$2 x$3 -> x$2 ; M.B x$4 x$5 -> x$4 ; _ -> raise NoMatch }`,
		`M.y :: forall a f. M.T a f -> f a = \v$2 -> case v$2 of { M.A x$6 x$7 -> x$7 ; _ -> raise NoMatch }`,
		`M.z :: forall a f. M.T a f -> Int = \v$3 -> case v$3 of { M.B x$8 x$9 -> x$9 ; _ -> raise NoMatch }`,
		`M.&& :: Bool -> Bool -> Bool = \v$`,
		`M.f :: forall a. M.K a => a -> Bool = \v$`,
		`M.g :: forall a. M.K a => a -> Bool = M.f`,
		`plain M.h = 3`,
		`plain M.t$1 = let { plain r$1 = M.h } in case M.f M.h of { True -> r$1 ; False -> raise NoMatch }`,
		`plain M.p = let { plain fail$`,
		`M.q :: Int = let { plain fail$`,
		`M.+ = \a$1 -> \b$3 -> intAdd a$1 b$3`,
		`M.* = \a$2 -> \b$4 -> a$2`,
		`plain M.w = let { plain t$1 = M.q ; plain p$1 = case t$1 of { (,) v$`,
		// The derived instance stands behind its data type.
		`M.inst$1: M.== = \v$`,
		`M.inst$2: M.== = intEq`,
		`M.inst$3: M.n = \v$`,
		`M.inst$3: M.m = \b$`,
		`M.Eq: M.<> = \x$1 -> \y$1 -> M.f ((M.==) x$1 y$1)`,
	}
	got := listing(k)
	for i := range max(len(got), len(want)) {
		if i >= len(got) || i >= len(want) || !strings.HasPrefix(got[i], want[i]) {
			t.Fatalf("binding %d of %s, want %s", i, strings.Join(got, "\n"), strings.Join(want, "\n"))
		}
	}
	if k.Name != "M" || len(k.Exports) != 3 || k.Exports[1].Subs[0] != "M.A" || k.Exports[2].Name != "M.K" {
		t.Errorf("the module %s with the exports %v", k.Name, k.Exports)
	}
	checkNoSharing(t, k)
}

// P16.1, P16.4: what a module declares.
func TestEnvironment(t *testing.T) {
	k, fault := Module(api.Env{Datas: []api.Data{data("X", "X")}}, module(t, exampleModule))
	want := `data M.T a f. | M.A f a ; f a M.x,M.y| M.B f a ; Int M.x,M.z| M.C  | M.:% Int ; a 
data M.V a. | M.V a 
data M.W 
class M.Eq a.  | M.== :: forall a. M.Eq a => a -> a -> Bool ; M.<> :: forall a. M.Eq a => a -> a -> Bool | M.<>
class M.K k. M.Eq,M.Super | M.m :: forall k b c. (M.K k, M.Eq b) => b -> k -> c ; M.n :: forall k b. (M.K k, M.Eq k, M.Eq b) => k -> b ; M.o :: forall k. M.K k => Int | 
class M.Super a.  |  | 
M.inst$1 M.Eq forall a. M.Eq a => M.V a
M.inst$2 M.Eq Int
M.inst$3 M.K forall a b. (M.K a, M.Eq a) => M.T a b
M.&& :: Bool -> Bool -> Bool
M.f :: forall a. M.K a => a -> Bool
M.g :: forall a. M.K a => a -> Bool
M.q :: Int
M.&& 3 2
M.== 4 0
M.<> 4 0
M.+ 6 1
M.* 6 1`
	if got := strings.Join(envText(k.Env), "\n"); fault != (api.Fault{}) || got != want {
		t.Errorf("the environment\n%s\nwant\n%s\nthe fault %v", got, want, fault)
	}
	for i, inst := range k.Insts {
		if envText(api.Env{Insts: []api.Inst{inst.Inst}})[0] != envText(k.Env)[6+i] {
			t.Errorf("the instance %v", inst.Inst)
		}
	}
}

// P16.1: in the scheme of a method the parameter comes first, wherever it occurs in the signature.
func TestMethodSchemes(t *testing.T) {
	for text, want := range map[string]string{
		"m :: b -> a":                 "forall a b. M.K a => b -> a",
		"m :: b":                      "forall a b. M.K a => b",
		"m :: K b => b -> a":          "forall a b. (M.K a, M.K b) => b -> a",
		"m :: (K b, K a, K a) => a":   "forall a b. (M.K a, M.K b) => a",
		"m :: (L c, L b, K a) => b":   "forall a c b. (M.K a, M.L c, M.L b) => b",
		"m :: (L a, L a) => f a -> f": "forall a f. (M.K a, M.L a, M.L a) => f a -> f",
	} {
		k, fault := Module(api.Env{}, module(t, "module M where { class K a where { "+text+" } ; class L a }"))
		if fault != (api.Fault{}) {
			t.Fatal(fault)
		}
		if got := types.PrintScheme(k.Env.Classes[0].Methods[0].Scheme); got != want {
			t.Errorf("the scheme of %s: %s, want %s", text, got, want)
		}
	}
}

// P16.1: a module without declarations, and its names.
func TestEmptyModule(t *testing.T) {
	k, fault := Module(api.Env{}, api.Module{Name: "A", Exports: []api.Export{{Name: "A.x"}, {Name: "B.T", Subs: []string{"B.C"}}}})
	if fault != (api.Fault{}) || k.Name != "A" || len(k.Exports) != 2 || k.Exports[1].Subs[0] != "B.C" || len(k.Binds)+len(k.Insts)+len(k.Defaults)+len(envText(k.Env)) > 0 {
		t.Errorf("%v, the fault %v", k, fault)
	}
}

// P16.1: new names avoid all functions and variables of patterns in a module, at any place.
func TestNamesOfModule(t *testing.T) {
	m := api.Module{Name: "M", Decls: []api.Decl{
		{Op: api.DPat, Pat: api.Pat{Op: api.PWild}, Rhs: []api.Rhs{{Body: parsed(t, "(+ y)")}}},
		{Op: api.DFun, Name: "M.t$1", Clauses: []api.Clause{{Rhs: []api.Rhs{{Body: parsed(t, "1")}}}}},
	}}
	for _, name := range []string{"v$1", "v$3"} {
		inner := &m.Decls[1].Clauses[0].Rhs[0].Body
		*inner = api.Expr{Op: api.ELam, Pats: []api.Pat{{Op: api.PVar, Name: name}}, Kids: []api.Expr{*inner}}
	}
	k, fault := Module(api.Env{}, m)
	if got := strings.Join(listing(k), "\n"); fault != (api.Fault{}) || got != "plain M.t$2 = \\v$2 -> (+) v$2 y\nplain M.t$1 = \\v$3 -> \\v$1 -> 1" {
		t.Errorf("%s, the fault %v", got, fault)
	}
}

// P16.1: the faults of modules, in their order.
func TestModuleFaults(t *testing.T) {
	env := api.Env{Datas: []api.Data{data("A.T", "A.C A.l")}}
	for text, want := range map[string]api.Fault{
		"x = M.Z":                            {Code: api.ErrScope, Name: "M.Z"},
		"x = 1 ; y = M.Z ; z = M.Y":          {Code: api.ErrScope, Name: "M.Z"},
		"x = A.C { l = 1 }":                  {Code: api.ErrField, Name: "l"},
		"f (A.C) = 1":                        {Code: api.ErrArity, Name: "A.C"},
		"x = Z ; data D = D { a, a :: Int }": {Code: api.ErrTwice, Name: "a"},
		"data D = D { a :: Int } | E { a :: Char, b, b :: T }":                                                                         {Code: api.ErrTwice, Name: "b"},
		"data D = D { a, b :: Int } | E { b, a :: Char }":                                                                              {Code: api.ErrType, Name: "b"},
		"data D = D { a :: x } | E { a :: y } ; data F = F { b, b :: Int }":                                                            {Code: api.ErrType, Name: "a"},
		"data D = D { a :: x } | E { a :: x }":                                                                                         {},
		"data D = D { a, b :: Int } ; data E = E { a :: Char }":                                                                        {},
		"instance K Int where { m = Z } ; x = Y":                                                                                       {Code: api.ErrScope, Name: "Z"},
		"class K a where { m = Z } ; x = Y":                                                                                            {Code: api.ErrScope, Name: "Z"},
		"x = Y ; class K a where { m = Z }":                                                                                            {Code: api.ErrScope, Name: "Y"},
		"x = let { y = 1 ; y = 2 } in y":                                                                                               {Code: api.ErrArg},
		"x = " + listText(80, `"`+strings.Repeat("x", 200)+`"`):                                                                        {Code: api.ErrLong},
		"x = " + listText(80, `"`+strings.Repeat("x", 200)+`"`) + " ; y = let {a=1;a=2} in 3":                                          {Code: api.ErrLong},
		"x = let {a=1;a=2} in 3 ; y = " + listText(80, `"`+strings.Repeat("x", 200)+`"`):                                               {Code: api.ErrArg},
		"instance K Int where {x = let {a=1;a=2} in 3} ; y = " + listText(80, `"`+strings.Repeat("x", 200)+`"`):                        {Code: api.ErrLong},
		"class K a where {x = " + listText(80, `"`+strings.Repeat("x", 200)+`"`) + "} ; instance K Int where {x = let {a=1;a=2} in 3}": {Code: api.ErrArg},
		"class K a where {x = " + listText(80, `"`+strings.Repeat("x", 200)+`"`) + "} ; y = 1":                                         {Code: api.ErrLong},
		"y = " + listText(80, `"`+strings.Repeat("x", 200)+`"`) + " ; z = Z":                                                           {Code: api.ErrScope, Name: "Z"},
	} {
		m, fault := parser.Module("module M where { " + text + " }")
		if fault == (api.Fault{}) {
			m, fault = fixity.Module(nil, m)
		}
		if fault != (api.Fault{}) {
			t.Fatal(text, fault)
		}
		k, fault := Module(env, m)
		if fault != want || want != (api.Fault{}) && (k.Name != "" || k.Binds != nil || k.Env.Datas != nil || k.Env.Values != nil) {
			t.Errorf("Module of %s: the fault %v, want %v", text, fault, want)
		}
	}
}

// P16.1: the data types of the environment come before those of the module, and these before the built-in ones.
func TestDataTypesOfModule(t *testing.T) {
	env := api.Env{Datas: []api.Data{data("M.T", "M.C M.l")}}
	m, fault := parser.Module("module M where { data U = C Int Int | True Int ; f (True x) = C { l = 1 } ; g (M.C x) = 1 }")
	if fault == (api.Fault{}) {
		m, fault = fixity.Module(nil, m)
	}
	if fault != (api.Fault{}) {
		t.Fatal(fault)
	}
	m.Decls[0].Name, m.Decls[0].Cons[0].Name = "M.U", "M.C"
	field := &m.Decls[1].Clauses[0].Rhs[0].Body
	field.Name, field.Fields[0].Name = "M.C", "M.l"
	k, fault := Module(env, m)
	if got := strings.Join(listing(k), "\n"); fault != (api.Fault{}) || !strings.Contains(got, "in M.C 1 ; _ -> raise NoMatch }\ng = ") {
		t.Errorf("%s, the fault %v", got, fault)
	}
}

// P16.1: arguments that are not valid.
func TestBadModules(t *testing.T) {
	derived, _ := parser.Module("module M where { data T = T deriving (Eq) ; x = Z }")
	infix, _ := parser.Module("module M where { y = Z ; x = 1 + 2 }")
	paren, _ := parser.Module("module M where { instance K Int where { f (x) = 1 } }")
	inner, _ := parser.Module("module M where { f x | y = 1 where { z = (w) } }")
	for _, m := range []api.Module{{}, {Name: "m"}, {Name: "M", Decls: []api.Decl{{}}}, derived, infix, paren, inner} {
		if k, fault := Module(api.Env{}, m); fault != (api.Fault{Code: api.ErrArg}) || k.Name != "" || k.Binds != nil {
			t.Errorf("Module of %v: the fault %v", m, fault)
		}
	}
}

// P16.1, P16.4: random modules have a binding for each function and variable, and the meaning of local declarations.
func TestRandomModules(t *testing.T) {
	r := &maker{rand.New(rand.NewSource(17)), 0}
	env := api.Env{Datas: recordDatas()}
	compared := 0
	for range 600 {
		r.names = 0
		var decls []api.Decl
		var in []variable
		for range 1 + r.Intn(3) {
			more, vars := r.decls(4, in)
			decls, in = append(decls, more...), vars
		}
		m := api.Module{Name: "M", Decls: decls}
		if syntax.Check(m) != api.OK {
			continue
		}
		k, fault := Module(env, m)
		if fault != (api.Fault{}) {
			t.Fatalf("%s: the fault %v", syntax.Print(m), fault)
		}
		bound := trees.Map(k.Binds, func(b api.KBind) string { return b.Name })
		for _, v := range in {
			if !slices.Contains(bound, v.name) {
				t.Errorf("%s: %s has no binding in %v", syntax.Print(m), v.name, bound)
			}
			if v.param != "" {
				continue
			}
			e := api.Expr{Op: api.ELet, Decls: decls, Kids: []api.Expr{ev(v.name)}}
			body := kernels.Let(k.Binds, kernels.Var(v.name))
			want, known := outcome(func() value {
				return surface{newEvaluator(env.Datas), patterns.NewTable(env.Datas), env.Datas}.eval(&e, globals())
			})
			got, alsoKnown := outcome(func() value { return newEvaluator(env.Datas).kernel(&body, globals()) })
			if known && alsoKnown {
				compared++
				if got != want {
					t.Fatalf("%s: %s is %s, want %s", syntax.Print(m), v.name, got, want)
				}
			}
		}
	}
	if compared < 500 {
		t.Errorf("only %d values were compared", compared)
	}
}

// fieldsCase has the listing, or the fault, of the selectors of a data type.
type fieldsCase struct {
	data  api.Data
	want  string
	fault api.Fault
}

func typed(d api.Data, con, field int, text string) api.Data {
	d.Cons[con].Fields[field], _ = types.Parse(text)
	return d
}

// P16.1: what Fields returns.
func TestFields(t *testing.T) {
	params := data("P", "P x y | Q y | R | S . .")
	params.Params = []api.TyVar{{Name: "a"}, {Name: "f", Kind: api.Kind{Args: []api.Kind{{}}}}}
	short := data("T", "A x x | B y")
	short.Cons[1].Labels = append(short.Cons[1].Labels, "z")
	missing := data("T", "A x y")
	missing.Cons[0].Labels = missing.Cons[0].Labels[:1]
	for _, x := range []fieldsCase{
		{data("P", "P x"), `x :: P -> Int = \v$1 -> case v$1 of { P x$1 -> x$1 }`, api.Fault{}},
		{data("P", "P . | Q"), "", api.Fault{}},
		{api.Data{}, "", api.Fault{}},
		{typed(params, 0, 0, "f a"), "x :: forall a (f :: * -> *). P a f -> f a = \\v$1 -> case v$1 of { P x$1 x$2 -> x$1 ; _ -> raise NoMatch }\ny :: forall a (f :: * -> *). P a f -> Int = \\v$2 -> case v$2 of { P x$3 x$4 -> x$4 ; Q x$5 -> x$5 ; _ -> raise NoMatch }", api.Fault{}},
		{data("T", "A x y | B y x"), "x :: T -> Int = \\v$1 -> case v$1 of { A x$1 x$2 -> x$1 ; B x$3 x$4 -> x$4 }\ny :: T -> Int = \\v$2 -> case v$2 of { A x$5 x$6 -> x$6 ; B x$7 x$8 -> x$7 }", api.Fault{}},
		{data("T", "A x y x | B"), "", api.Fault{Code: api.ErrTwice, Name: "x"}},
		{data("T", "A x y y x"), "", api.Fault{Code: api.ErrTwice, Name: "y"}},
		{short, "", api.Fault{Code: api.ErrArg}},
		{missing, "", api.Fault{Code: api.ErrArg}},
		{typed(data("T", "A x | B x"), 1, 0, "Char"), "", api.Fault{Code: api.ErrType, Name: "x"}},
		{typed(data("T", "A x | B x | C y y"), 1, 0, "Char"), "", api.Fault{Code: api.ErrTwice, Name: "y"}},
		{typed(typed(data("T", "A x y | B y x"), 1, 0, "Char"), 1, 1, "Char"), "", api.Fault{Code: api.ErrType, Name: "y"}},
		{typed(typed(data("T", "A x | B x"), 1, 0, "forall a. a"), 0, 0, "forall b. b"), `x :: T -> forall b. b = \v$1 -> case v$1 of { A x$1 -> x$1 ; B x$2 -> x$2 }`, api.Fault{}},
	} {
		got, fault := Fields(x.data)
		if text := strings.Join(trees.Map(got, bindText), "\n"); fault != x.fault || text != x.want {
			t.Errorf("Fields of %v: %s, the fault %v, want %s, %v", x.data, text, fault, x.want, x.fault)
		}
		checkNoSharing(t, got)
	}
}

// P16.5: selectors select, or raise NoMatch.
func TestSelectors(t *testing.T) {
	d := data("T", "A x y z | B z | C | D y x | E . .")
	binds, fault := Fields(d)
	if fault != (api.Fault{}) || len(binds) != 3 {
		t.Fatal(fault, binds)
	}
	for _, b := range binds {
		for _, con := range d.Cons {
			c := constructed{name: con.Name}
			want := "!NoMatch"
			for i := range con.Fields {
				c.fields = append(c.fields, done(i))
				if slices.Index(con.Labels, b.Name) == i {
					want = string(rune('0' + i))
				}
			}
			got, _ := outcome(func() value {
				return newEvaluator(nil).kernel(&b.Body, globals()).(function)(done(c))
			})
			if got != want {
				t.Errorf("%s of %s: %s, want %s", b.Name, con.Name, got, want)
			}
		}
	}
}
