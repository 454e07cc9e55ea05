package derive

import (
	"fmt"
	"reflect"
	"strings"
	"testing"

	"lazyc/api"
	"lazyc/fixity"
	"lazyc/parser"
	"lazyc/scope"
	"lazyc/syntax"
)

// resolved returns the resolved module with a source; its module is M, and it declares the classes Eq and Ord.
func resolved(t *testing.T, decls string) api.Module {
	t.Helper()
	m, fault := parser.Module("module M where { class Eq a where { (==) :: a -> a -> Bool } ; class Ord a where { (<=) :: a -> a -> Bool } ; class Show a ; " + decls + " }")
	if fault == (api.Fault{}) {
		m, fault = fixity.Module(nil, m)
	}
	if fault == (api.Fault{}) {
		m, fault = scope.Module(m, nil)
	}
	if fault != (api.Fault{}) {
		t.Fatalf("%s: %v", decls, fault)
	}
	return m
}

// data returns the first declaration behind the classes.
func data(t *testing.T, decl string) api.Decl {
	t.Helper()
	return resolved(t, decl).Decls[3]
}

// text writes an instance, or the fault.
func text(d api.Decl, fault api.Fault) string {
	if fault != (api.Fault{}) {
		return strings.TrimSpace(fmt.Sprint(faultName(fault.Code), " ", fault.Name, strings.Repeat("!", fault.Line+fault.Col+len(d.Decls))))
	}
	return syntax.PrintDecl(d)
}

func faultName(code api.Errno) string {
	switch code {
	case api.ErrArg:
		return "ErrArg"
	case api.ErrInstance:
		return "ErrInstance"
	case api.ErrKind:
		return "ErrKind"
	case api.ErrLong:
		return "ErrLong"
	case api.ErrDepth:
		return "ErrDepth"
	}
	return fmt.Sprint(code)
}

// P12.1: the instances.
func TestInstance(t *testing.T) {
	for _, c := range []struct{ class, data, want string }{
		{"M.Eq", "data T = A | B", "instance M.Eq M.T where { ( M.== ) M.A M.A = True ; ( M.== ) M.B M.B = True ; ( M.== ) _ _ = False }"},
		{"M.Ord", "data T = A | B", "instance M.Ord M.T where { ( M.<= ) M.A M.A = True ; ( M.<= ) M.A _ = True ; ( M.<= ) _ M.A = False ; ( M.<= ) M.B M.B = True }"},
		{"M.Eq", "data T = A", "instance M.Eq M.T where { ( M.== ) M.A M.A = True }"},
		{"M.Ord", "data T = A", "instance M.Ord M.T where { ( M.<= ) M.A M.A = True }"},
		{"M.Eq", "data T a", "instance M.Eq ( M.T a ) where { ( M.== ) _ _ = True }"},
		{"M.Ord", "data T a", "instance M.Ord ( M.T a ) where { ( M.<= ) _ _ = True }"},
		{"M.Eq", "data P a = P a Int", "instance ( M.Eq a ) => M.Eq ( M.P a ) where { ( M.== ) ( M.P a$1 a$2 ) ( M.P b$1 b$2 ) = if ( M.== ) a$1 b$1 then if ( M.== ) a$2 b$2 then True else False else False }"},
		{"M.Ord", "data P a = P a Int", "instance ( M.Ord a ) => M.Ord ( M.P a ) where { ( M.<= ) ( M.P a$1 a$2 ) ( M.P b$1 b$2 ) = " +
			"if ( M.<= ) a$1 b$1 then if ( M.<= ) b$1 a$1 then if ( M.<= ) a$2 b$2 then if ( M.<= ) b$2 a$2 then True else True else False else True else False }"},
		{"Prelude.Eq", "data T a b c = A (T c b Int) | B | C { l :: [a -> c] }",
			"instance ( Prelude.Eq a , Prelude.Eq b , Prelude.Eq c ) => Prelude.Eq ( M.T a b c ) where { " +
				"( Prelude.== ) ( M.A a$1 ) ( M.A b$1 ) = if ( Prelude.== ) a$1 b$1 then True else False ; ( Prelude.== ) M.B M.B = True ; " +
				"( Prelude.== ) ( M.C a$2 ) ( M.C b$2 ) = if ( Prelude.== ) a$2 b$2 then True else False ; ( Prelude.== ) _ _ = False }"},
		{"M.Ord", "data T c b a = a :+ (a, b) | B | C Int", "instance ( M.Ord b , M.Ord a ) => M.Ord ( M.T c b a ) where { " +
			"( M.<= ) ( ( M.:+ ) a$1 a$2 ) ( ( M.:+ ) b$1 b$2 ) = if ( M.<= ) a$1 b$1 then if ( M.<= ) b$1 a$1 then if ( M.<= ) a$2 b$2 then if ( M.<= ) b$2 a$2 then True else True else False else True else False ; " +
			"( M.<= ) ( ( M.:+ ) _ _ ) _ = True ; ( M.<= ) _ ( ( M.:+ ) _ _ ) = False ; ( M.<= ) M.B M.B = True ; ( M.<= ) M.B _ = True ; ( M.<= ) _ M.B = False ; " +
			"( M.<= ) ( M.C a$3 ) ( M.C b$3 ) = if ( M.<= ) a$3 b$3 then if ( M.<= ) b$3 a$3 then True else True else False }"},
		{"M.Eq", "data T f = A (T f)", "instance ( M.Eq f ) => M.Eq ( M.T f ) where { ( M.== ) ( M.A a$1 ) ( M.A b$1 ) = if ( M.== ) a$1 b$1 then True else False }"},
		{"M.Eq", "data T f a = A (f a)", "ErrKind f"},
		{"M.Eq", "data T a f = A a | B [Int -> f Int]", "ErrKind f"},
		{"M.Ord", "data T a b c = A (c a) | B (b (c a) a)", "ErrKind b"},
		{"M.Ord", "data T a b c = A (c a) | B (M.T (a b) b c)", "ErrKind a"},
		{"M.Show", "data T f a = A (f a)", "ErrInstance M.Show"},
		{"Eq", "data T = A", "ErrInstance Eq"},
		{"", "data T = A", "ErrInstance"},
		{"M.Eq$1", "data T = A", "ErrInstance M.Eq$1"},
	} {
		if got := text(Instance(c.class, data(t, c.data))); got != c.want {
			t.Errorf("%s for %s\n got %s\nwant %s", c.class, c.data, got, c.want)
		}
	}
}

// P12.1: arguments that are no data declarations, before any other error.
func TestInstanceInvalid(t *testing.T) {
	m := resolved(t, "f = 1 ; infixl 6 `f` ; (x, y) = f ; instance Show Int")
	valid := data(t, "data T f a = A (f a)")
	for _, d := range append(m.Decls,
		api.Decl{},
		api.Decl{Op: api.DData},
		api.Decl{Op: api.DData, Name: "t"},
		api.Decl{Op: api.DData, Name: "M.T", Names: []string{"A"}},
		api.Decl{Op: api.DData, Name: "M.T", N: 1},
		api.Decl{Op: api.DData, Name: "M.T", Cons: append(valid.Cons, api.ConDecl{Name: "x"})},
		api.Decl{Op: api.DData, Name: "M.T", Cons: make([]api.ConDecl, api.MaxSize)},
	) {
		for _, class := range []string{"M.Eq", "M.Show"} {
			if got := text(Instance(class, d)); got != "ErrArg" {
				t.Errorf("%v: %s", d, got)
			}
		}
	}
	// The type of the instance cannot be written, and the declaration's own one can.
	strange := api.Decl{Op: api.DData, Name: "M.T", Names: []string{"forall"}}
	if syntax.PrintDecl(strange) == "" || text(Instance("M.Eq", strange)) != "ErrArg" {
		t.Error(text(Instance("M.Eq", strange)))
	}
}

// many returns a data declaration with constructors that have fields.
func many(cons, fields int) api.Decl {
	d := api.Decl{Op: api.DData, Name: "M.T", Derive: []string{"M.Eq", "M.Ord"}}
	for i := range cons {
		con := api.ConDecl{Name: fmt.Sprint("M.C", i)}
		for range fields {
			con.Fields = append(con.Fields, api.Type{Op: api.TCon, Name: "Int"})
		}
		d.Cons = append(d.Cons, con)
	}
	return d
}

// P12.1: instances that are too large.
func TestInstanceLimits(t *testing.T) {
	for _, c := range []struct {
		cons, fields int
		eq, ord      string
	}{
		// A body is nested as deep as it has conditions, and four around it: the instance, its function, the clause and the right-hand side;
		// in the innermost condition, an application of an application stands around the operator.
		{1, 93, "", "ErrDepth"},
		{1, 94, "ErrDepth", "ErrDepth"},
		{1, 46, "", ""},
		{1, 47, "", "ErrDepth"},
		{199, 0, "", "ErrLong"},
		{200, 0, "ErrLong", "ErrLong"},
		{67, 0, "", ""},
		{68, 0, "", "ErrLong"},
		{200, 94, "ErrDepth", "ErrDepth"},
		{150, 15, "ErrLong", "ErrLong"},
	} {
		for i, want := range []string{c.eq, c.ord} {
			d := many(c.cons, c.fields)
			class := d.Derive[i]
			inst, fault := Instance(class, d)
			if got := text(inst, fault); got != want && (want != "" || fault != (api.Fault{})) {
				t.Errorf("%s with %d constructors with %d fields: %s", class, c.cons, c.fields, got)
			}
			m := api.Module{Name: "M", All: true, Decls: []api.Decl{d}}
			m.Decls[0].Derive = []string{class}
			if _, fault := Module(m); faultName(fault.Code) != want && (want != "" || fault != (api.Fault{})) || fault.Name != "" {
				t.Errorf("a module with %s and %d constructors with %d fields: %v", class, c.cons, c.fields, fault)
			}
		}
	}
}

// P12.1: the derivable classes.
func TestDerivable(t *testing.T) {
	for _, class := range []string{"M.Eq", "M.Ord", "Prelude.Eq", "Prelude.Ord", "Ord.Ord"} {
		if !Derivable(class) {
			t.Error(class, "is not derivable")
		}
	}
	for _, class := range []string{"", "Eq", "Ord", "M.Show", "M.eq", "M.Eqs", "m.Eq", "M.N.Eq", "M.Eq$1", "Eq$1", "M.", "M. Eq", "Eq.M", ".Eq", "M.=="} {
		if Derivable(class) {
			t.Error(class, "is derivable")
		}
	}
}

// P12.2: instances take the place of the deriving clauses, and nothing else changes.
func TestModule(t *testing.T) {
	m := resolved(t, "f a = a ; data T a = A a deriving (Ord, Eq) ; g = \\b@a -> let { (a, b) = 1 ; h = 2 } in 3 ; data S = B Int | C deriving (Eq) ; data R = R deriving () ; infixl 6 `f`")
	got, fault := Module(m)
	want := m
	want.Decls = nil
	for _, d := range m.Decls {
		classes := d.Derive
		d.Derive = nil
		want.Decls = append(want.Decls, d)
		for _, class := range classes {
			inst, fault := Instance(class, d)
			if fault != (api.Fault{}) {
				t.Fatal(fault)
			}
			want.Decls = append(want.Decls, inst)
		}
	}
	// The source has the variables a$1 to a$3, b$1 and b$2; each instance alone has a$1 and b$1.
	parts := strings.Split(syntax.Print(want), "instance")
	for i, numbers := range []string{"a$4 b$3", "a$5 b$4", "a$6 b$5"} {
		a, b, _ := strings.Cut(numbers, " ")
		method, rest, _ := strings.Cut(parts[i+1], "}")
		parts[i+1] = strings.NewReplacer("a$1", a, "b$1", b).Replace(method) + "}" + rest
	}
	text := strings.Join(parts, "instance")
	if fault != (api.Fault{}) || syntax.Print(got) != text {
		t.Errorf("%v\n got %s\nwant %s", fault, syntax.Print(got), text)
	}
	if again, fault := Module(got); fault != (api.Fault{}) || !syntax.Same(again, got) {
		t.Error("a module without deriving clauses changes")
	}
}

// P12.2: the faults of a module.
func TestModuleFaults(t *testing.T) {
	for _, c := range []struct {
		decls string
		want  api.Fault
	}{
		{"data T = A deriving (Eq, Show) ; data S f = B (f Int) deriving (Eq)", api.Fault{Code: api.ErrInstance, Name: "M.Show"}},
		{"data S f = B (f Int) deriving (Eq) ; data T = A deriving (Eq, Show)", api.Fault{Code: api.ErrKind, Name: "f"}},
		{"data S f = B (f Int) ; data T = A", api.Fault{}},
	} {
		m, fault := Module(resolved(t, c.decls))
		if fault != c.want || fault != (api.Fault{}) && !reflect.DeepEqual(m, api.Module{}) {
			t.Errorf("%s: %v, %v", c.decls, fault, m)
		}
	}
	for _, m := range []api.Module{{}, {Name: "m"}, {Name: "M", All: true, Decls: []api.Decl{many(1, 1), {}}}} {
		if _, fault := Module(m); fault != (api.Fault{Code: api.ErrArg}) {
			t.Errorf("%v: %v", m, fault)
		}
	}
	// What is wrong with a class comes before what is too large.
	m := api.Module{Name: "M", All: true, Decls: []api.Decl{many(300, 0), many(1, 1)}}
	m.Decls[1].Derive = []string{"M.Show"}
	if _, fault := Module(m); fault != (api.Fault{Code: api.ErrInstance, Name: "M.Show"}) {
		t.Error(fault)
	}
	// Each instance is small enough, but not all of them together.
	m.Decls = nil
	for range 40 {
		m.Decls = append(m.Decls, many(30, 3))
	}
	if _, fault := Module(m); fault != (api.Fault{Code: api.ErrLong}) {
		t.Error(fault)
	}
}

// P12.1, P12.3, P12.4, P12.5: the form of instances, and their names.
func TestForm(t *testing.T) {
	for cons := range 12 {
		for fields := range 6 {
			d := many(cons, fields)
			m := api.Module{Name: "M", All: true, Decls: []api.Decl{d, {Op: api.DFun, Name: "a$2", Clauses: []api.Clause{{Pats: []api.Pat{{Op: api.PVar, Name: "b$3"}}, Rhs: []api.Rhs{{Body: api.Expr{Op: api.EInt}}}}}}}}
			got, fault := Module(m)
			if fault != (api.Fault{}) || syntax.Check(got) != api.OK || !scope.Unique(got) || len(got.Decls) != 4 {
				t.Fatalf("%d constructors with %d fields: %v, %s", cons, fields, fault, syntax.Print(got))
			}
			eq, ord := got.Decls[1].Decls[0].Clauses, got.Decls[2].Decls[0].Clauses
			wantEq, wantOrd := cons+1, 3*cons-2
			if cons < 2 {
				wantEq, wantOrd = 1, 1
			}
			if len(eq) != wantEq || len(ord) != wantOrd {
				t.Errorf("%d constructors: %d and %d clauses", cons, len(eq), len(ord))
			}
			for _, c := range append(eq, ord...) {
				if len(c.Pats) != 2 || len(c.Where) > 0 || len(c.Rhs) != 1 || len(c.Rhs[0].Guard) > 0 {
					t.Errorf("the clause %v", c)
				}
			}
		}
	}
}

// P12.3: a module whose binders are different keeps that.
func TestUnique(t *testing.T) {
	m := resolved(t, "data T a b = A a b Int | B (T b a) deriving (Eq, Ord) ; f a b = let { c (a, b) = 1 } in \\a -> do { 1 } ; (>>=) = 1 ; instance Eq (a -> b) where { a == b = \\b@a -> [a | a <- b, let { b = a }] }")
	got, fault := Module(m)
	if fault != (api.Fault{}) || !scope.Unique(m) || !scope.Unique(got) {
		t.Errorf("%v: %s", fault, syntax.Print(got))
	}
}

// Results are new memory, and arguments stay as they are.
func TestMemory(t *testing.T) {
	m := resolved(t, "data T a = A { x :: [a] } | B deriving (Eq, Ord) ; f (x, y) | x = [z | z <- y] where { g :: Eq a => a ; g = A { x = 1 } } ; instance Eq a => Show [a]")
	before := fmt.Sprint(m)
	got, _ := Module(m)
	inst, _ := Instance("M.Eq", m.Decls[3])
	want := fmt.Sprint(got, inst)
	if fmt.Sprint(m) != before {
		t.Errorf("the module became %v", m)
	}
	destroy(reflect.ValueOf(m))
	if fmt.Sprint(got, inst) != want {
		t.Error("the results share memory with the module")
	}
	seen := map[uintptr]bool{}
	noteSlices(t, reflect.ValueOf(got), seen)
	noteSlices(t, reflect.ValueOf(inst), seen)
}

func destroy(v reflect.Value) {
	switch v.Kind() {
	case reflect.Struct:
		for i := range v.NumField() {
			destroy(v.Field(i))
		}
	case reflect.Slice:
		for i := range v.Len() {
			destroy(v.Index(i))
			v.Index(i).SetZero()
		}
	}
}

func noteSlices(t *testing.T, v reflect.Value, seen map[uintptr]bool) {
	switch v.Kind() {
	case reflect.Struct:
		for i := range v.NumField() {
			noteSlices(t, v.Field(i), seen)
		}
	case reflect.Slice:
		if v.Len() > 0 && seen[v.Pointer()] {
			t.Errorf("%v is shared", v)
		}
		if v.Len() > 0 {
			seen[v.Pointer()] = true
		}
		for i := range v.Len() {
			noteSlices(t, v.Index(i), seen)
		}
	}
}
