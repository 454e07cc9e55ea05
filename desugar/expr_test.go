package desugar

import (
	"slices"
	"strings"
	"testing"

	"lazyc/api"
	"lazyc/fixity"
	"lazyc/kernel"
	"lazyc/names"
	"lazyc/parser"
	"lazyc/syntax"
	"lazyc/trees"
)

// parsed returns the expression with a text. Its names stand for themselves, and do expressions have the operators >>= and >>.
func parsed(t *testing.T, text string) api.Expr {
	t.Helper()
	e, fault := parser.Expr(text)
	if fault == (api.Fault{}) {
		e, fault = fixity.Expr(nil, e)
	}
	if fault != (api.Fault{}) {
		t.Fatal(text, fault)
	}
	c := trees.Copier{OnExpr: func(_, e api.Expr) api.Expr {
		if e.Op == api.EDo {
			e.Names = []string{">>=", ">>"}
		}
		return e
	}}
	return c.Expr(e)
}

// shapesEnv has constructors with and without labels, two of which have one label at different places.
func shapesEnv() api.Env {
	return api.Env{Datas: []api.Data{data("Shape", "Box w h d | Rod h w | Dot | Tip h"), data("Pair", "Pair . ."), data("Late", "Late w q")}}
}

// P16.1: the translation of each form; where a matrix is compiled, the names are those that match makes.
func TestExpr(t *testing.T) {
	for _, x := range []struct {
		text, want string
	}{
		{"x", "x"},
		{"(+)", "(+)"},
		{"M.x", "M.x"},
		{"True", "True"},
		{"(:)", "(:)"},
		{"()", "()"},
		{"[]", "[]"},
		{"(,,)", "(,,)"},
		{"Pair", "Pair"},
		{"7", "7"},
		{"'a'", "'a'"},
		{`"a\n"`, `(:) 'a' ((:) '\x0a' [])`},
		{`""`, "[]"},
		{"[x, 1]", "(:) x ((:) 1 [])"},
		{"(x, 1)", "(,) x 1"},
		{"(a, b, c, d, e, f, g)", "(,,,,,,) a b c d e f g"},
		{"f x 1", "f x 1"},
		{"x + y", "(+) x y"},
		{"x : y", "(:) x y"},
		{"- x", "intNeg x"},
		{"- 5", "intNeg 5"},
		{`\x y -> x`, `\x -> \y -> x`},
		{`\x -> - x`, `\x -> intNeg x`},
		{`\x _ -> x`, `\v$1 -> \v$2 -> let { plain x = v$1 } in x`},
		{`\True -> 1`, `\v$1 -> case v$1 of { True -> 1 ; _ -> raise NoMatch }`},
		{`\(x, y) -> x`, `\v$1 -> case v$1 of { (,) v$2 v$3 -> let { plain x = v$2 ; plain y = v$3 } in x }`},
		{"let { x = 1 ; f y = x } in f", `let { plain x = 1 ; f = \y -> x } in f`},
		{"let { } in x", "x"},
		{"let { x :: Int } in x", "x"},
		{"let { f :: a -> Int ; f x = 1 ; g, h :: K a => b -> a ; g = f ; h = f } in g", `let { f :: forall a. a -> Int = \x -> 1 ; g :: forall a b. K a => b -> a = f ; h :: forall a b. K a => b -> a = f } in g`},
		{"let { f 0 = 1 ; f n = n } in f", `let { f = \v$1 -> case v$1 of { 0 -> 1 ; _ -> let { plain n = v$1 } in n } } in f`},
		{"let { f x | a = x ; f y = y } in f", `let { f = \v$1 -> let { plain fail$1 = let { plain y = v$1 } in y } in let { plain x = v$1 } in case a of { True -> x ; False -> fail$1 } } in f`},
		{"let { x :: Int ; x :: Char ; x = 1 } in x", "let { x :: Int = 1 } in x"},
		{"let { x | a = 1 | b = 2 } in x", "let { plain x = case a of { True -> 1 ; False -> case b of { True -> 2 ; False -> raise NoMatch } } } in x"},
		{"let { f x | a = y where { y = x } } in f", `let { f = \x -> let { plain y = x } in case a of { True -> y ; False -> raise NoMatch } } in f`},
		{"let { f _ = y where { y = 1 } } in f", `let { f = \v$1 -> let { plain y = 1 } in y } in f`},
		{"let { (x, 1) = e } in x", "let { plain t$1 = e ; plain x = case t$1 of { (,) v$1 v$2 -> case v$2 of { 1 -> let { plain x$1 = v$1 } in x$1 ; _ -> raise NoMatch } } } in x"},
		{"let { a@(B b) = e where { e = b } } in a", ""},
		{"let { 1 = e } in 2", "let { plain t$1 = e } in 2"},
		{"let { x :: Int ; [x] = e } in x", "let { plain t$1 = e ; x :: Int = let { plain fail$1 = raise NoMatch } in case t$1 of { (:) v$1 v$2 -> case v$2 of { [] -> let { plain x$1 = v$1 } in x$1 ; _ -> fail$1 } ; _ -> fail$1 } } in x"},
		{"if b then x else y", "case b of { True -> x ; False -> y }"},
		{"case e of { 0 -> a ; x -> x }", `(\v$1 -> case v$1 of { 0 -> a ; _ -> let { plain x = v$1 } in x }) e`},
		{"case e of { x | a -> b | c -> d ; _ -> y where { y = 1 } }", `(\v$1 -> let { plain fail$1 = let { plain y = 1 } in y } in let { plain x = v$1 } in case a of { True -> b ; False -> case c of { True -> d ; False -> fail$1 } }) e`},
		{"do { x }", "x"},
		{"do { x ; y ; z }", "(>>) x ((>>) y z)"},
		{"do { x <- e ; f x }", `(>>=) e (\x -> f x)`},
		{"do { (x, _) <- e ; f x }", `(>>=) e (\v$1 -> case v$1 of { (,) v$2 v$3 -> let { plain x = v$2 } in f x })`},
		{"do { 1 <- e ; x }", `(>>=) e (\v$1 -> case v$1 of { 1 -> x ; _ -> raise NoMatch })`},
		{"do { let { x = 1 } ; f x }", "let { plain x = 1 } in f x"},
		{"do { let { } ; f x }", "f x"},
		{"[x | b]", "case b of { True -> (:) x [] ; False -> [] }"},
		{"[x | x <- l]", `let { go$1 = \v$1 -> case v$1 of { [] -> [] ; (:) x xs$1 -> (:) x (go$1 xs$1) } } in go$1 l`},
		{"[x | let { x = 1 }, b]", "let { plain x = 1 } in case b of { True -> (:) x [] ; False -> [] }"},
		{"[x | (x, 1) <- l]", `let { go$1 = \v$1 -> case v$1 of { [] -> [] ; (:) x$1 xs$1 -> case x$1 of { (,) v$2 v$3 -> case v$3 of { 1 -> let { plain x = v$2 } in (:) x (go$1 xs$1) ; _ -> go$1 xs$1 } } } } in go$1 l`},
		{"[y | x <- l, b, y <- x]", `let { go$1 = \v$1 -> case v$1 of { [] -> [] ; (:) x xs$1 -> case b of { True -> let { go$2 = \v$2 -> case v$2 of { [] -> go$1 xs$1 ; (:) y xs$2 -> (:) y (go$2 xs$2) } } in go$2 x ; False -> go$1 xs$1 } } } in go$1 l`},
		{"[a .. b]", `(\hi$1 -> let { go$1 = \n$1 -> case intLe n$1 hi$1 of { True -> (:) n$1 (case intEq n$1 hi$1 of { True -> [] ; False -> go$1 (intAdd n$1 1) }) ; False -> [] } } in go$1 a) b`},
		{"(x +)", "(+) x"},
		{"(x :)", "(:) x"},
		{"(x `f`)", "f x"},
		{"(+ x)", `\v$1 -> (+) v$1 x`},
		{"(: x)", `\v$1 -> (:) v$1 x`},
		{"(`Pair` 1)", `\v$1 -> Pair v$1 1`},
		{"x :: Int", "(x :: Int)"},
		{"x :: (K b, L a) => a -> c -> b", "(x :: forall b a c. (K b, L a) => a -> c -> b)"},
		{"Box { d = 1, w = 2 }", "Box 2 (raise NoMatch) 1"},
		{"Dot { }", "Dot"},
		{"Pair { }", "Pair (raise NoMatch) (raise NoMatch)"},
		{"r { h = 1 }", `(\u$1 -> case r of { Box x$1 x$2 x$3 -> Box x$1 u$1 x$3 ; Rod x$4 x$5 -> Rod u$1 x$5 ; Tip x$6 -> Tip u$1 ; _ -> raise NoMatch }) 1`},
		{"r { w = 1, d = 2 }", `(\u$1 -> \u$2 -> case r of { Box x$1 x$2 x$3 -> Box u$1 x$2 u$2 ; _ -> raise NoMatch }) 1 2`},
		{"r { q = 1 }", `(\u$1 -> case r of { Late x$1 x$2 -> Late x$1 u$1 }) 1`},
		{"r { w = 1, q = 2 }", `(\u$1 -> \u$2 -> case r of { _ -> raise NoMatch }) 1 2`},
	} {
		e := parsed(t, x.text)
		got, fault := Expr(shapesEnv(), e, supplyFor(e))
		if x.want == "" {
			if fault != (api.Fault{Code: api.ErrScope, Name: "B"}) {
				t.Errorf("Expr of %s: the fault %v", x.text, fault)
			}
			continue
		}
		if fault != (api.Fault{}) || kernel.Print(got) != x.want {
			t.Errorf("Expr of %s: %s, the fault %v, want %s", x.text, kernel.Print(got), fault, x.want)
		}
		checkNoSharing(t, got)
	}
}

// P16.1: new names are those of the supply.
func TestNewNames(t *testing.T) {
	e := parsed(t, "[x | x <- l]")
	s := names.NewSupply("go$1", "v$1", "x$1", "xs$1", "x", "l")
	got, fault := Expr(api.Env{}, e, s)
	if want := `let { go$2 = \v$2 -> case v$2 of { [] -> [] ; (:) x xs$2 -> (:) x (go$2 xs$2) } } in go$2 l`; fault != (api.Fault{}) || kernel.Print(got) != want {
		t.Errorf("%s, the fault %v, want %s", kernel.Print(got), fault, want)
	}
	if name := s.Fresh("go"); name != "go$3" {
		t.Errorf("the supply gives %s again", name)
	}
}

// P16.1: together with a fault the supply is as before.
func TestSupplyAfterFault(t *testing.T) {
	for _, text := range []string{`\_ -> C`, `\(x, y) -> [z | (z, C) <- l]`, "r { h = C }", "let { (x, y) = C } in x"} {
		s := names.NewSupply("v$2")
		if _, fault := Expr(shapesEnv(), parsed(t, text), s); fault.Code != api.ErrScope {
			t.Errorf("Expr of %s: the fault %v", text, fault)
		}
		for _, want := range strings.Fields("v$1 v$3 go$1 x$1 xs$1 u$1 t$1") {
			base, _, _ := names.Base(want)
			if got := s.Fresh(base); got != want {
				t.Errorf("after Expr of %s the supply gives %s, want %s", text, got, want)
			}
		}
	}
}

// P16.1: the faults, in their order.
func TestFaults(t *testing.T) {
	for text, want := range map[string]api.Fault{
		"C":                                     {Code: api.ErrScope, Name: "C"},
		"M.C":                                   {Code: api.ErrScope, Name: "M.C"},
		"f C D":                                 {Code: api.ErrScope, Name: "C"},
		"C { w = D }":                           {Code: api.ErrScope, Name: "C"},
		"Box { q = D }":                         {Code: api.ErrField, Name: "q"},
		"Box { w = D, q = 1 }":                  {Code: api.ErrField, Name: "q"},
		"Box { w = D, w = 1 }":                  {Code: api.ErrTwice, Name: "w"},
		"Box { w = 1, w = 1, q = 1 }":           {Code: api.ErrTwice, Name: "w"},
		"Box { q = 1, w = 1, w = 1 }":           {Code: api.ErrField, Name: "q"},
		"Pair { w = 1 }":                        {Code: api.ErrField, Name: "w"},
		"Dot { w = 1 }":                         {Code: api.ErrField, Name: "w"},
		"Box { d = C, w = D }":                  {Code: api.ErrScope, Name: "D"},
		"C { }":                                 {Code: api.ErrScope, Name: "C"},
		"C { z = D }":                           {Code: api.ErrScope, Name: "C"},
		"D { z = 1, z = 2 }":                    {Code: api.ErrScope, Name: "D"},
		"C { w = 1 } { z = 1 }":                 {Code: api.ErrScope, Name: "z"},
		"(f C) { w = D }":                       {Code: api.ErrScope, Name: "C"},
		"(f C) { w = D, w = 1 }":                {Code: api.ErrTwice, Name: "w"},
		"(f C) { z = D, w = 1 }":                {Code: api.ErrScope, Name: "z"},
		"r { z = D, z = 1 }":                    {Code: api.ErrTwice, Name: "z"},
		"r { w = D, z = C }":                    {Code: api.ErrScope, Name: "D"},
		`\(C x) -> D`:                           {Code: api.ErrScope, Name: "D"},
		`\(C x) -> 1`:                           {Code: api.ErrScope, Name: "C"},
		`\(Dot x) -> 1`:                         {Code: api.ErrArity, Name: "Dot"},
		`\(Box { q = x }) -> 1`:                 {Code: api.ErrField, Name: "q"},
		`\(Box { w = x, w = y }) -> 1`:          {Code: api.ErrTwice, Name: "w"},
		"case C of { D -> 1 }":                  {Code: api.ErrScope, Name: "D"},
		"case C of { D -> E }":                  {Code: api.ErrScope, Name: "E"},
		"case C of { Dot -> 1 ; x -> D }":       {Code: api.ErrScope, Name: "D"},
		"case C of { Dot -> 1 }":                {Code: api.ErrScope, Name: "C"},
		"case x of { C -> 1 ; _ | D -> E }":     {Code: api.ErrScope, Name: "D"},
		"case x of { _ | y -> E where y = D }":  {Code: api.ErrScope, Name: "D"},
		"let { f C = 1 ; g = D } in E":          {Code: api.ErrScope, Name: "C"},
		"let { f C = D ; g = E } in 1":          {Code: api.ErrScope, Name: "D"},
		"let { (C x) = D } in 1":                {Code: api.ErrScope, Name: "D"},
		"let { (C x) = 1 ; y = D } in 1":        {Code: api.ErrScope, Name: "C"},
		"let { C = 1 ; y = D } in 1":            {Code: api.ErrScope, Name: "D"},
		"do { C <- D ; E }":                     {Code: api.ErrScope, Name: "D"},
		"do { C <- d ; E }":                     {Code: api.ErrScope, Name: "E"},
		"do { C <- d ; D <- e ; f }":            {Code: api.ErrScope, Name: "D"},
		"do { C <- d ; f }":                     {Code: api.ErrScope, Name: "C"},
		"do { x <- C ; D }":                     {Code: api.ErrScope, Name: "C"},
		"do { C ; D }":                          {Code: api.ErrScope, Name: "C"},
		"do { let { x = C } ; D }":              {Code: api.ErrScope, Name: "C"},
		"[C | D <- E]":                          {Code: api.ErrScope, Name: "C"},
		"[x | D <- E]":                          {Code: api.ErrScope, Name: "D"},
		"[x | _ <- E, y <- D]":                  {Code: api.ErrScope, Name: "D"},
		"[C | D]":                               {Code: api.ErrScope, Name: "D"},
		"[C .. D]":                              {Code: api.ErrScope, Name: "C"},
		"[1 .. D]":                              {Code: api.ErrScope, Name: "D"},
		"if C then D else E":                    {Code: api.ErrScope, Name: "C"},
		"let { x = \\_ -> C } in \\(D y) -> x":  {Code: api.ErrScope, Name: "C"},
		"(x :: Int) C":                          {Code: api.ErrScope, Name: "C"},
		"let { x = 1 ; x = 2 } in x":            {Code: api.ErrArg},
		"let { (x, x) = 1 } in C":               {Code: api.ErrScope, Name: "C"},
		"let { (x, x) = 1 } in x":               {Code: api.ErrArg},
		"case x of { _ | a -> b where (y,y)=b}": {Code: api.ErrArg},
	} {
		e := parsed(t, text)
		got, fault := Expr(shapesEnv(), e, supplyFor(e))
		if fault != want || !kernel.Same(got, api.Kernel{}) {
			t.Errorf("Expr of %s: the fault %v and %v, want %v", text, fault, got, want)
		}
	}
}

// P16.1: arguments that are not valid.
func TestBadArguments(t *testing.T) {
	wrong := api.Fault{Code: api.ErrArg}
	good := parsed(t, "f C")
	for _, s := range []*names.Supply{nil, {}} {
		if got, fault := Expr(api.Env{}, good, s); fault != wrong || !kernel.Same(got, api.Kernel{}) {
			t.Errorf("Expr with the supply %v: the fault %v", s, fault)
		}
	}
	paren, _ := parser.Expr("(x)")
	infix, _ := parser.Expr("x + C")
	pattern, _ := parser.Expr(`\(x : y) -> C`)
	deep := parsed(t, "x")
	for range api.MaxDepth {
		deep = api.Expr{Op: api.ENeg, Kids: []api.Expr{deep}}
	}
	for _, e := range []api.Expr{{}, {Op: api.EInt, N: -1}, {Op: api.EVar, Name: "True"}, {Op: api.ECon, Name: "x"}, paren, infix, pattern, deep, {Op: api.EList, Kids: slices.Repeat([]api.Expr{good}, api.MaxString+1)}} {
		if got, fault := Expr(api.Env{}, e, names.NewSupply()); fault != wrong || !kernel.Same(got, api.Kernel{}) {
			t.Errorf("Expr of %v: the fault %v", e, fault)
		}
	}
}

// P16.1: a do expression that lacks a name.
func TestOperatorsOfDo(t *testing.T) {
	for _, x := range []struct {
		text, generator, plain string
		fault                  bool
	}{
		{"do { x }", "", "", false},
		{"do { let { x = 1 } ; x }", "", "", false},
		{"do { x <- y ; x }", "M.bind", "", false},
		{"do { x <- y ; C }", "", "M.next", true},
		{"do { x ; y }", "", "M.next", false},
		{"do { C ; y }", "M.bind", "", true},
		{"do { x ; y <- C ; y }", "", "M.next", true},
		{"do { x <- y ; C ; x }", "M.bind", "", true},
		{"do { x <- y ; z ; x }", "M.bind", "M.next", false},
	} {
		e := parsed(t, x.text)
		e.Names = []string{x.generator, x.plain}
		got, fault := Expr(api.Env{}, e, supplyFor(e))
		want := api.Fault{}
		if x.fault {
			want.Code = api.ErrArg
		}
		if fault != want {
			t.Errorf("Expr of %s with %v: the fault %v, want %v", x.text, e.Names, fault, want)
		}
		if text := kernel.Print(got); strings.Contains(text, ">>") || strings.Contains(x.text, "y ; z") && !strings.Contains(text, "M.bind y (\\x -> M.next z x)") {
			t.Errorf("Expr of %s: %s", x.text, text)
		}
	}
	none := api.Expr{Op: api.EDo, Stmts: parsed(t, "do { x ; y }").Stmts}
	if _, fault := Expr(api.Env{}, none, supplyFor(none)); fault != (api.Fault{Code: api.ErrArg}) {
		t.Errorf("the fault %v without names", fault)
	}
	last := api.Expr{Op: api.EDo, Stmts: parsed(t, "do { x }").Stmts}
	if got, fault := Expr(api.Env{}, last, supplyFor(last)); fault != (api.Fault{}) || kernel.Print(got) != "x" {
		t.Errorf("%s, the fault %v for a single expression", kernel.Print(got), fault)
	}
}

// P16.1: of equal labels of one constructor the first one counts.
func TestEqualLabels(t *testing.T) {
	env := api.Env{Datas: []api.Data{data("T", "T a b a"), data("U", "U b")}}
	for text, want := range map[string]string{
		"T { a = 1 }": "T 1 (raise NoMatch) (raise NoMatch)",
		"r { a = 1 }": `(\u$1 -> case r of { T x$1 x$2 x$3 -> T u$1 x$2 x$3 }) 1`,
		"r { b = 1 }": `(\u$1 -> case r of { T x$1 x$2 x$3 -> T x$1 u$1 x$3 }) 1`,
	} {
		e := parsed(t, text)
		got, fault := Expr(env, e, supplyFor(e))
		if fault != (api.Fault{}) || kernel.Print(got) != want {
			t.Errorf("Expr of %s: %s, the fault %v, want %s", text, kernel.Print(got), fault, want)
		}
	}
}

// P16.1: the data types are those of the environment, and then the built-in ones.
func TestDataTypes(t *testing.T) {
	env := api.Env{Datas: []api.Data{data("B", "True . | M.C")}}
	e := parsed(t, `\x -> case x of { True y -> M.C }`)
	got, fault := Expr(env, e, supplyFor(e))
	if want := `\x -> (\v$1 -> case v$1 of { True v$2 -> let { plain y = v$2 } in M.C ; _ -> raise NoMatch }) x`; fault != (api.Fault{}) || kernel.Print(got) != want {
		t.Errorf("%s, the fault %v, want %s", kernel.Print(got), fault, want)
	}
}

// list returns the text of a list of n elements.
func listText(n int, element string) string {
	return "[" + strings.Repeat(element+", ", n-1) + element + "]"
}

// P16.1: results that are too large, or nested too deeply.
func TestLimits(t *testing.T) {
	long := `"` + strings.Repeat("x", api.MaxString) + `"`
	deep := "x"
	for range 20 {
		deep = "[" + strings.Repeat("y, ", api.MaxString-1) + deep + "]"
	}
	for name, x := range map[string]struct {
		text string
		want api.Errno
	}{
		"long":              {listText(76, long), api.ErrLong},
		"almost long":       {listText(74, long), api.OK},
		"deep":              {deep, api.ErrDepth},
		"long first":        {"f " + deep + listText(76, long), api.ErrLong},
		"a fault":           {"f " + listText(76, long) + " C", api.ErrScope},
		"not formed":        {"let { x = " + listText(76, long) + " ; x = 1 } in x", api.ErrArg},
		"long in a row":     {"case x of { 1 -> " + listText(76, long) + " ; _ -> y }", api.ErrLong},
		"long and deep":     {"case x of { 1 -> " + listText(76, long) + " ; _ -> " + deep + " }", api.ErrLong},
		"long in a guard":   {"case x of { _ | " + listText(76, long) + " -> 1 }", api.ErrLong},
		"never reached":     {"case x of { _ -> 1 ; 1 -> " + listText(76, long) + " }", api.OK},
		"deep and a fault":  {"f " + deep + " C", api.ErrScope},
		"a large pattern":   {"let { " + listText(200, "x") + " = y } in 1", api.ErrArg},
		"many variables":    {"let { " + manyVariables(600) + " = y } in 1", api.ErrLong},
		"a medium pattern":  {"let { " + manyVariables(40) + " = y } in 1", api.OK},
		"a fault after all": {"let { " + manyVariables(600) + " = y } in C", api.ErrScope},
	} {
		e, fault := parser.Expr(x.text)
		if fault != (api.Fault{}) {
			t.Fatal(name, fault)
		}
		e, _ = fixity.Expr(nil, e)
		if code := syntax.CheckExpr(e); code != api.OK {
			t.Fatal(name, code)
		}
		got, fault := Expr(api.Env{}, e, supplyFor(e))
		if fault.Code != x.want || x.want != api.OK && !kernel.Same(got, api.Kernel{}) {
			t.Errorf("%s: the fault %v, want %d", name, fault, x.want)
		}
	}
}

// manyVariables returns the text of a pattern with variables a0, a1 and so on.
func manyVariables(n int) string {
	var lists []string
	for i := range n {
		name := "a" + strings.Repeat("'", i%40) + strings.Repeat("b", i/40)
		if i%100 == 0 {
			lists = append(lists, "["+name)
		} else {
			lists[len(lists)-1] += ", " + name
		}
	}
	return "[" + strings.Join(lists, "], ") + "]]"
}

// The memory that is needed does not grow with every constructor that a source names.
func TestLargeData(t *testing.T) {
	big := api.Data{Name: "Big", Cons: []api.Con{{Name: "Big", Fields: make([]api.Type, 20000)}}}
	for i := range 20 {
		con := api.Con{Name: "C" + strings.Repeat("c", i), Fields: make([]api.Type, 500), Labels: slices.Repeat([]string{"l"}, 500)}
		big.Cons = append(big.Cons, con)
	}
	e := parsed(t, "f Big { } r { l = 1 }")
	e.Kids[1] = api.Expr{Op: api.EList, Kids: slices.Repeat([]api.Expr{e.Kids[1]}, 40)}
	for range 25 {
		alts := []api.Alt{{Pat: api.Pat{Op: api.PWild}, Rhs: []api.Rhs{{Body: e}}}}
		e = api.Expr{Op: api.ECase, Kids: []api.Expr{parsed(t, "x")}, Alts: alts}
	}
	if _, fault := Expr(api.Env{Datas: []api.Data{big}}, e, supplyFor(e)); fault != (api.Fault{Code: api.ErrLong}) {
		t.Errorf("the fault %v", fault)
	}
}
