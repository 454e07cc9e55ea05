package fixity

import (
	"slices"
	"strings"
	"testing"

	"lazyc/api"
	"lazyc/parser"
	"lazyc/syntax"
)

// table returns fixities from a text: "l6 + r5 ++ n4 ==".
func table(text string) []api.Fixity {
	var list []api.Fixity
	words := strings.Fields(text)
	for i := 0; i < len(words); i += 2 {
		assoc := api.Assoc(strings.Index("nlr", words[i][:1]))
		list = append(list, api.Fixity{Name: words[i+1], Prec: int(words[i][1] - '0'), Assoc: assoc})
	}
	return list
}

const usualTable = "l6 + l6 - l7 * n4 == r3 && r5 ++ r6 <> r0 $ l1 >> n6 % r8 ^ n4 <= l4 ~~ r7 :* n7 :% l5 `"

func expr(t *testing.T, src string) api.Expr {
	t.Helper()
	e, fault := parser.Expr(src)
	if fault != (api.Fault{}) {
		t.Fatalf("%q: %v", src, fault)
	}
	return e
}

func pat(t *testing.T, src string) api.Pat {
	t.Helper()
	p, fault := parser.Pat(src)
	if fault != (api.Fault{}) {
		t.Fatalf("%q: %v", src, fault)
	}
	return p
}

func module(t *testing.T, src string) api.Module {
	t.Helper()
	m, fault := parser.Module(src)
	if fault != (api.Fault{}) {
		t.Fatalf("%q: %v", src, fault)
	}
	return m
}

func isNone(e api.Expr) bool { return syntax.SameExpr(e, api.Expr{}) }

// P8.1: the own fixities, and the imported ones for names that are not declared.
func TestTable(t *testing.T) {
	imported := table("l6 + r5 ++ n4 M.+ l3 x r2 A n1 : l7 +")
	for _, c := range []struct{ src, want string }{
		{"", "l6 + r5 ++ n4 M.+ l3 x r2 A n1 : l7 +"},
		{"infixl 2 + ; a + b = a", "l2 + r5 ++ n4 M.+ l3 x r2 A n1 :"},
		{"a + b = a", "r5 ++ n4 M.+ l3 x r2 A n1 :"},
		{"infix - , `x` ; infixr 0 +++ ; x = 1 ; a - b = a ; a +++ b = b", "n9 - n9 x r0 +++ l6 + r5 ++ n4 M.+ r2 A n1 : l7 +"},
		{"(x, (+)) = y", "r5 ++ n4 M.+ r2 A n1 :"},
		{"x@[(++)] = y ; infixl 1 ++", "l1 ++ l6 + n4 M.+ r2 A n1 : l7 +"},
		{"class C a where { (+), x :: a ; y = y }", "r5 ++ n4 M.+ r2 A n1 :"},
		{"class C a where { (++) x = x }", "l6 + r5 ++ n4 M.+ l3 x r2 A n1 : l7 +"},
		{"data A = B { x, (++) :: A } | Int :* Int ; infixr 4 :*, `B`, `x`", "r4 :* r4 B r4 x l6 + n4 M.+ r2 A n1 : l7 +"},
		{"data T = A", "l6 + r5 ++ n4 M.+ l3 x n1 : l7 +"},
		{"(+) :: Int", "l6 + r5 ++ n4 M.+ l3 x r2 A n1 : l7 +"},
		{"f = let { a + b = a } in f where { x = 1 }", "l6 + r5 ++ n4 M.+ l3 x r2 A n1 : l7 +"},
		{"instance C a where { a + b = a }", "l6 + r5 ++ n4 M.+ l3 x r2 A n1 : l7 +"},
	} {
		got, fault := Table(imported, module(t, c.src))
		if fault != (api.Fault{}) || !slices.Equal(got, table(c.want)) {
			t.Errorf("%q: %v with %v, want %v", c.src, fault, got, table(c.want))
		}
	}
}

// P8.1: faults of fixity declarations, name by name.
func TestTableFaults(t *testing.T) {
	twice := func(name string) api.Fault { return api.Fault{Code: api.ErrTwice, Name: name} }
	scope := func(name string) api.Fault { return api.Fault{Code: api.ErrScope, Name: name} }
	for _, c := range []struct {
		src  string
		want api.Fault
	}{
		{"infix + ; a + b = a ; infixl 6 +", twice("+")},
		{"infix + , - , + ; a + b = a ; a - b = b", twice("+")},
		{"infix - ; infix - , + ; a + b = a", scope("-")},
		{"infix + , - ; infix + ; a + b = a", scope("-")},
		{"infix + , + , - ; a + b = a", twice("+")},
		{"infix :", scope(":")},
		{"infix `T` ; data T = A", scope("T")},
		{"infix + ; (+) :: Int", scope("+")},
		{"infix + ; class C a where { a + b = a }", scope("+")},
		{"infix + ; instance C a where { a + b = a }", scope("+")},
		{"infix + ; f = let { a + b = a } in f", scope("+")},
		{"infix `a` ; a + b = a", scope("a")},
	} {
		got, fault := Table(nil, module(t, c.src))
		if fault != c.want || got != nil {
			t.Errorf("%q: %v with %v, want %v", c.src, fault, got, c.want)
		}
		if m, other := Module(nil, module(t, c.src)); other != c.want || m.Name != "" || m.All || m.Decls != nil {
			t.Errorf("%q: Module has %v with %v", c.src, other, m)
		}
	}
}

// P8.1, P8.3, P8.4: fixities and trees that are not valid.
func TestInvalidArguments(t *testing.T) {
	arg := api.Fault{Code: api.ErrArg}
	m, e, p := module(t, "x = y + z"), expr(t, "y + z"), pat(t, "y : z")
	for _, f := range []api.Fixity{{}, {Prec: 1}, {Name: "+", Prec: -1}, {Name: "+", Prec: 10}, {Name: "+", Assoc: -1}, {Name: "+", Assoc: 3}} {
		list := []api.Fixity{{Name: "*", Prec: 9}, f}
		got, one := Table(list, m)
		result, two := Module(list, m)
		r, three := Expr(list, e)
		q, four := Pat(list, p)
		if one != arg || two != arg || three != arg || four != arg || got != nil || result.Decls != nil || !isNone(r) || q.Kids != nil {
			t.Errorf("%v: %v, %v, %v, %v", f, one, two, three, four)
		}
	}
	list := []api.Fixity{{Name: "+", Prec: 0}, {Name: "any thing", Prec: 9, Assoc: api.AssocRight}}
	if _, fault := Expr(list, e); fault != (api.Fault{}) {
		t.Errorf("valid fixities: %v", fault)
	}
	bad := m
	bad.Name = "m"
	deep := expr(t, "x")
	for range api.MaxDepth {
		deep = api.Expr{Op: api.EParen, Kids: []api.Expr{deep}}
	}
	_, one := Table(nil, bad)
	_, two := Module(nil, bad)
	_, three := Expr(nil, api.Expr{Op: api.EInfix})
	_, four := Expr(nil, deep)
	_, five := Pat(nil, api.Pat{Op: api.PInfix})
	_, six := Pat(nil, api.Pat{})
	for i, fault := range []api.Fault{one, two, three, four, five, six} {
		if fault != arg {
			t.Errorf("tree %d: %v", i+1, fault)
		}
	}
}

// P8.2: the first element with the name, or the usual fixity.
func TestFind(t *testing.T) {
	list := table("l6 + r5 + n0 x")
	list = append(list, api.Fixity{Prec: 99})
	for _, c := range []struct {
		table []api.Fixity
		name  string
		want  api.Fixity
	}{
		{nil, "+", api.Fixity{Name: "+", Prec: 9, Assoc: api.AssocLeft}},
		{nil, ":", api.Fixity{Name: ":", Prec: 5, Assoc: api.AssocRight}},
		{nil, "", api.Fixity{Prec: 9, Assoc: api.AssocLeft}},
		{list, "+", api.Fixity{Name: "+", Prec: 6, Assoc: api.AssocLeft}},
		{list, "x", api.Fixity{Name: "x"}},
		{list, "M.+", api.Fixity{Name: "M.+", Prec: 9, Assoc: api.AssocLeft}},
		{list, ":", api.Fixity{Name: ":", Prec: 5, Assoc: api.AssocRight}},
		{list, "", api.Fixity{Prec: 99}},
		{table("n4 :"), ":", api.Fixity{Name: ":", Prec: 4}},
	} {
		if got := Find(c.table, c.name); got != c.want {
			t.Errorf("Find of %q returned %v, want %v", c.name, got, c.want)
		}
	}
}
