package syntax

import (
	"slices"
	"strings"
	"testing"

	"lazyc/api"
)

// Names of each shape, and texts that have none.
const (
	varNames     = "x x' _x forall hidden x$0 x$12 M.x M.x$1 X.x'"
	conNames     = "A A' M.A A$1 M.A$1 () [] (,) (,,) (,,,) (,,,,) (,,,,,) (,,,,,,)"
	operNames    = "+ - . * $ ! <-> $$ $$1 +$1 M.+ M.. M.- M.+$$2"
	conOperNames = ": :+ ::: :$1 :+$1 M.: M.:+ M.:+$1"
	noNames      = "_ where case as hiding where$1 M.where M.where$1 M._ -- --- --$1 M.-- -> ->$1 M.-> => :: .. = | @ ~ <- \\ " +
		"x$01 x$ $1 $1x x$-1 x$1$1 x$9223372036854775808 1 1x 'x x.y m.x M. .x M.N.x M.N.A x+ +x (,,,,,,,) ( ) (-> (->) (+) M.() ()$1 []$1 [ ] [,] (() {} , ; `"
)

// longName has as many bytes as a name may have.
var longName = strings.Repeat("x", api.MaxName)

// allNames returns the names of all shapes, and texts without a shape.
func allNames() []string {
	all := words(varNames + " " + conNames + " " + operNames + " " + conOperNames + " " + noNames)
	return append(all, "", "( )", "a b", " a", "a ", "\n", "\xff", longName, "M."+longName, longName+"$1", longName+"x", "M.x"+longName, "X"+longName, strings.Repeat("+", 64), strings.Repeat("+", 65))
}

// goodNames returns names, and of the long ones those of variables and operators.
func goodNames(lists ...string) []string {
	var all []string
	for _, list := range lists {
		all = append(all, words(list)...)
		switch list {
		case varNames:
			all = append(all, longName, "M."+longName, longName+"$1")
		case operNames:
			all = append(all, strings.Repeat("+", 64))
		}
	}
	return all
}

// checkNames checks that a tree is well formed exactly with these names.
func checkNames(t *testing.T, what string, good []string, check func(name string) api.Errno) {
	t.Helper()
	for _, name := range allNames() {
		want := api.ErrArg
		if slices.Contains(good, name) {
			want = api.OK
		}
		if got := check(name); got != want {
			t.Errorf("%s with the name %q: error %d, want %d", what, name, got, want)
		}
	}
}

// P6.1: the names of expressions.
func TestExprNames(t *testing.T) {
	variables, constructors := goodNames(varNames, operNames), goodNames(conNames, conOperNames)
	symbols := append(slices.Clone(variables), constructors...)
	noMinus := slices.DeleteFunc(slices.Clone(symbols), func(name string) bool { return name == "-" })
	withNone := append([]string{""}, variables...)
	for what, place := range map[string]struct {
		good []string
		with func(name string) api.Expr
	}{
		"EVar":    {variables, ev},
		"ECon":    {constructors, ec},
		"EInfix":  {symbols, func(name string) api.Expr { e := infix("+", x, x); e.Names = []string{name}; return e }},
		"EDo >>=": {withNone, func(name string) api.Expr { e := do(exp(x)); e.Names = []string{name, "x"}; return e }},
		"EDo >>":  {withNone, func(name string) api.Expr { e := do(exp(x)); e.Names = []string{"", name}; return e }},
		"ELeft":   {symbols, func(name string) api.Expr { return section(api.ELeft, name, x) }},
		"ERight":  {noMinus, func(name string) api.Expr { return section(api.ERight, name, x) }},
		"ERecord": {constructors, func(name string) api.Expr { return record(name) }},
		"Field":   {variables, func(name string) api.Expr { return record("A", field("x", x), field(name, x)) }},
		"update":  {variables, func(name string) api.Expr { return update(x, field(name, x)) }},
		"class":   {constructors, func(name string) api.Expr { return signed(x, "a", api.Pred{Class: name, Type: ty("a")}) }},
	} {
		checkNames(t, what, place.good, func(name string) api.Errno { return CheckExpr(place.with(name)) })
	}
}

// P6.1: the names of patterns.
func TestPatNames(t *testing.T) {
	variables, constructors := goodNames(varNames, operNames), goodNames(conNames, conOperNames)
	for what, place := range map[string]struct {
		good []string
		with func(name string) api.Pat
	}{
		"PVar":    {variables, pv},
		"PCon":    {constructors, func(name string) api.Pat { return pcon(name, wild()) }},
		"PAs":     {variables, func(name string) api.Pat { return as(name, wild()) }},
		"PRecord": {constructors, func(name string) api.Pat { return precord(name, "") }},
		"label": {variables, func(name string) api.Pat {
			p := precord("A", "x y", wild(), wild())
			p.Names[1] = name
			return p
		}},
		"PInfix": {constructors, func(name string) api.Pat {
			p := pinfix(": :", wild(), wild(), wild())
			p.Names[1] = name
			return p
		}},
	} {
		checkNames(t, what, place.good, func(name string) api.Errno { return CheckExpr(lam(x, place.with(name))) })
	}
}

// P6.1: the names of declarations.
func TestDeclNames(t *testing.T) {
	variables, constructors := goodNames(varNames, operNames), goodNames(conNames, conOperNames)
	symbols := append(slices.Clone(variables), constructors...)
	params := append(words("x x' _x forall hidden"), longName)
	for what, place := range map[string]struct {
		good []string
		with func(name string) api.Decl
	}{
		"DData":     {constructors, func(name string) api.Decl { return data(name, "") }},
		"parameter": {params, func(name string) api.Decl { d := data("T", "a b"); d.Names[1] = name; return d }},
		"ConDecl":   {constructors, func(name string) api.Decl { return data("T", "", con("A", ""), con(name, "")) }},
		"label": {variables, func(name string) api.Decl {
			d := data("T", "", labelled("x y", con("A", "Int; Int")))
			d.Cons[0].Labels[1] = name
			return d
		}},
		"Derive":       {constructors, func(name string) api.Decl { d := data("T", ""); d.Derive = []string{"Eq", name}; return d }},
		"DClass":       {constructors, func(name string) api.Decl { return class(name, "a") }},
		"class's":      {params, func(name string) api.Decl { d := class("C", "a"); d.Names[0] = name; return d }},
		"DInst":        {constructors, func(name string) api.Decl { return inst(name, "a") }},
		"superclass":   {constructors, func(name string) api.Decl { return given(class("C", "a"), pred("D", "a"), pred(name, "a")) }},
		"DSig":         {variables, func(name string) api.Decl { d := sig("x", "a"); d.Names = []string{"x", name}; return d }},
		"DFix":         {symbols, func(name string) api.Decl { d := fix(0, 1, "+"); d.Names = []string{"+", name}; return d }},
		"DFun":         {variables, func(name string) api.Decl { return value(name, x) }},
		"class of sig": {constructors, func(name string) api.Decl { return sig("x", "a", pred(name, "a")) }},
	} {
		checkNames(t, what, place.good, func(name string) api.Errno { return Check(main(place.with(name))) })
	}
}

// P6.1: the names of modules, imports and exports.
func TestModuleNames(t *testing.T) {
	all := goodNames(varNames, operNames, conNames, conOperNames)
	modules := words("A A'")
	for what, place := range map[string]struct {
		good []string
		with func(name string) api.Module
	}{
		"module": {modules, func(name string) api.Module { return api.Module{Name: name} }},
		"import": {modules, func(name string) api.Module { return importing(api.Import{Module: name, As: "M"}) }},
		"as":     {modules, func(name string) api.Module { return importing(api.Import{Module: "M", As: name}) }},
		"imported": {all, func(name string) api.Module {
			return importing(api.Import{Module: "M", As: "M", Names: []api.Export{{Name: "x"}, {Name: name}}})
		}},
		"exported": {all, func(name string) api.Module { return exporting(api.Export{Name: "x"}, api.Export{Name: name}) }},
		"type": {goodNames(conNames, conOperNames), func(name string) api.Module {
			return exporting(api.Export{Name: name, Subs: []string{"A"}}, api.Export{Name: "A"})
		}},
		"type with all": {goodNames(conNames, conOperNames), func(name string) api.Module { return exporting(api.Export{Name: name, With: true}) }},
		"sub":           {all, func(name string) api.Module { return exporting(api.Export{Name: "T", Subs: []string{"A", name}}) }},
	} {
		checkNames(t, what, place.good, func(name string) api.Errno { return Check(place.with(name)) })
	}
}

func importing(list ...api.Import) api.Module { return api.Module{Name: "Main", Imports: list} }

func exporting(list ...api.Export) api.Module { return api.Module{Name: "Main", Exports: list} }
