package parser

import (
	"testing"

	"lazyc/api"
	"lazyc/syntax"
)

// P7.1: headers, exports and imports.
func TestModules(t *testing.T) {
	list := []api.Export{{Name: "f"}, {Name: "M.x"}, {Name: "+"}, {Name: "M.+"}, {Name: "T"}, {Name: "M.U"}, {Name: ":+"}, {Name: "V", With: true}, {Name: "W"},
		{Name: "X", Subs: []string{"A", "x", ":+", "+"}}}
	const entities = "(f, M.x, (+), (M.+), T, M.U, (:+), V (..), W (), X (A, x, (:+), (+)))"
	f := value("f", ei(1))
	imported := func(imports ...api.Import) api.Module {
		return api.Module{Name: "Main", All: true, Imports: imports, Decls: decls(f)}
	}
	for _, c := range []struct {
		src  string
		want api.Module
	}{
		{"", main()},
		{"f x = x ; g = f", main(fun("f", clause(ev("x"), pv("x"))), value("g", ev("f")))},
		{"{ f = 1 }", main(f)},
		{"module M where f = 1", api.Module{Name: "M", All: true, Decls: decls(f)}},
		{"module M () where { ; f = 1 ; }", api.Module{Name: "M", Decls: decls(f)}},
		{"module M " + entities + " where", api.Module{Name: "M", Exports: list}},
		{"import M ; f = 1", imported(api.Import{Module: "M", As: "M", All: true})},
		{"import M as N\nimport qualified M\n\nf = 1", imported(api.Import{Module: "M", As: "N", All: true}, api.Import{Module: "M", As: "M", All: true, Qualified: true})},
		{"import qualified M as N " + entities + "; ; import M hiding (f) ; import M () ; import M hiding () ; f = 1", imported(
			api.Import{Module: "M", As: "N", Qualified: true, Names: list},
			api.Import{Module: "M", As: "M", Hiding: true, Names: list[:1]},
			api.Import{Module: "M", As: "M"},
			api.Import{Module: "M", As: "M", Hiding: true})},
	} {
		got, fault := Module(c.src)
		if fault != (api.Fault{}) || !syntax.Same(got, c.want) {
			t.Errorf("%q: %v with\n%v, want\n%v", c.src, fault, got, c.want)
		}
	}
}

// P7.1, P7.4: faults in modules, in the order of the stages.
func TestModuleFaults(t *testing.T) {
	empty := func(m api.Module) bool { return m.Name == "" && !m.All && m.Decls == nil && m.Imports == nil }
	end := api.Fault{Code: api.ErrEnd}
	checkFaults(t, Module, empty, []faultCase{
		{"f = = 'ab'", api.Fault{Code: api.ErrQuote, Line: 1, Col: 7}},
		{"f = = )", api.Fault{Code: api.ErrLayout, Name: ")", Line: 1, Col: 7}},
		{"f x = 1 ; f = = ; f x y = 1", at("=", 1, 15)},
		{"f x = 1 ; f x y = do { }", api.Fault{Code: api.ErrArity, Name: "f"}},
		{"f x = do { }", api.Fault{Code: api.ErrArg}},
		{"f = " + nested("(", 97, ")"), api.Fault{Code: api.ErrDepth}},
		{"module M", end},
		{"module M (f", end},
		{"module M where {", end},
		{"module", end},
		{"module m", at("m", 1, 8)},
		{"module M.N where", at("M.N", 1, 8)},
		{"module (:+) where", at("(", 1, 8)},
		{"module M ; f = 1", at(";", 1, 10)},
		{"module M (..) where", at("..", 1, 11)},
		{"module M (f (..)) where", at("(", 1, 13)},
		{"module M (T (..), U (.., A)) where", at(",", 1, 24)},
		{"module M (T (A, M.B)) where", at("M.B", 1, 17)},
		{"module M (f,) where", at(")", 1, 13)},
		{"module M (module N) where", at("module", 1, 11)},
		{"module M where { } f", at("f", 1, 20)},
		{"f = 1 ; import M", at("import", 1, 9)},
		{"import m", at("m", 1, 8)},
		{"import M.N", at("M.N", 1, 8)},
		{"import M hiding", api.Fault{Code: api.ErrSyntax, Name: "}"}},
		{"import M as N.O", at("N.O", 1, 13)},
		{"import M qualified", at("qualified", 1, 10)},
		{"import M () hiding ()", at("hiding", 1, 13)},
		{"f = 1 }", api.Fault{Code: api.ErrLayout, Name: "}", Line: 1, Col: 7}},
	})
}
