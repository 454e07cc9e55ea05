package scope

import (
	"fmt"
	"strings"
	"testing"

	"lazyc/api"
	"lazyc/fixity"
	"lazyc/parser"
	"lazyc/syntax"
	"lazyc/types"
)

// parsed returns the module with a source.
func parsed(t *testing.T, source string) api.Module {
	t.Helper()
	m, fault := parser.Module(source)
	if fault == (api.Fault{}) {
		m, fault = fixity.Module(nil, m)
	}
	if fault != (api.Fault{}) {
		t.Fatalf("%s: %v", source, fault)
	}
	return m
}

// parsedExpr returns the expression with a source.
func parsedExpr(t *testing.T, source string) api.Expr {
	t.Helper()
	e, fault := parser.Expr(source)
	if fault == (api.Fault{}) {
		e, fault = fixity.Expr(nil, e)
	}
	if fault != (api.Fault{}) {
		t.Fatalf("%s: %v", source, fault)
	}
	return e
}

// interfaces returns the interfaces of modules with these sources, each of which may import those before it.
func interfaces(t *testing.T, sources ...string) []api.Iface {
	t.Helper()
	var list []api.Iface
	for _, source := range sources {
		m, fault := Module(parsed(t, source), list)
		if fault != (api.Fault{}) {
			t.Fatalf("%s: %v", source, fault)
		}
		list = append(list, api.Iface{Module: m.Name, Exports: m.Exports, Env: envOf(m)})
	}
	return list
}

// envOf returns the data types and classes of a resolved module.
func envOf(m api.Module) api.Env {
	var env api.Env
	for _, d := range m.Decls {
		switch d.Op {
		case api.DData:
			data := api.Data{Name: d.Name}
			for _, con := range d.Cons {
				data.Cons = append(data.Cons, api.Con{Name: con.Name, Fields: con.Fields, Labels: con.Labels})
			}
			env.Datas = append(env.Datas, data)
		case api.DClass:
			class := api.Class{Name: d.Name}
			for _, member := range d.Decls {
				for _, name := range member.Names {
					class.Methods = append(class.Methods, api.Sig{Name: name})
				}
			}
			env.Classes = append(env.Classes, class)
		}
	}
	return env
}

// faultText writes a fault as its name in the document and the name that it has.
func faultText(fault api.Fault) string {
	code := map[api.Errno]string{
		api.ErrArg: "ErrArg", api.ErrTwice: "ErrTwice", api.ErrScope: "ErrScope", api.ErrAmbiguous: "ErrAmbiguous",
		api.ErrModule: "ErrModule", api.ErrExport: "ErrExport", api.ErrField: "ErrField",
	}[fault.Code]
	return strings.TrimSpace(code + " " + fault.Name)
}

// exportsText writes exports as "M.f M.T(M.A,M.B)".
func exportsText(list []api.Export) string {
	var words []string
	for _, e := range list {
		word := e.Name
		if len(e.Subs) > 0 {
			word += "(" + strings.Join(e.Subs, ",") + ")"
		}
		if e.With {
			word += " with"
		}
		words = append(words, word)
	}
	return strings.Join(words, " ")
}

// declsText writes the declarations of a module.
func declsText(m api.Module) string {
	m = api.Module{Name: m.Name, All: true, Decls: m.Decls}
	text := strings.TrimPrefix(syntax.Print(m), "module "+m.Name+" where { ")
	return strings.TrimSuffix(text, " }")
}

// resolution returns the text of the declarations of a resolved module, or of its fault.
func resolution(m api.Module, imports []api.Iface) string {
	resolved, fault := Module(m, imports)
	if fault != (api.Fault{}) {
		if fmt.Sprint(resolved) != fmt.Sprint(api.Module{}) || fault.Line != 0 || fault.Col != 0 {
			return fmt.Sprint("a fault and more: ", resolved, fault)
		}
		return faultText(fault)
	}
	return declsText(resolved)
}

// exprResolution is resolution for expressions.
func exprResolution(e api.Expr, imports []api.Iface) string {
	resolved, fault := Expr(e, imports)
	if fault != (api.Fault{}) {
		if fmt.Sprint(resolved) != fmt.Sprint(api.Expr{}) || fault.Line != 0 || fault.Col != 0 {
			return fmt.Sprint("a fault and more: ", resolved, fault)
		}
		return faultText(fault)
	}
	return syntax.PrintExpr(resolved)
}

type moduleCase struct{ source, want string }

func checkModules(t *testing.T, imports []api.Iface, cases []moduleCase) {
	t.Helper()
	for _, c := range cases {
		if got := resolution(parsed(t, c.source), imports); got != c.want {
			t.Errorf("%s\n got %s\nwant %s", c.source, got, c.want)
		}
	}
}

func ty(text string) api.Type {
	t, fault := types.Parse(text)
	if fault != (api.Fault{}) {
		panic(text)
	}
	return t
}
