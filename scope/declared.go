package scope

import (
	"slices"

	"lazyc/api"
	"lazyc/base"
	"lazyc/names"
	"lazyc/syntax"
	"lazyc/trees"
)

// declaration is a declared type, class, function or variable, under its simple name; the parts are values.
type declaration struct {
	space space
	name  string
	parts []string
}

// declared returns what a declaration at top level declares.
func declared(d *api.Decl) []declaration {
	switch d.Op {
	case api.DData:
		return []declaration{{typeSpace, d.Name, partsOfData(d)}}
	case api.DClass:
		return []declaration{{typeSpace, d.Name, methodsOf(d)}}
	}
	var list []declaration
	for _, name := range variablesOf(d) {
		list = append(list, declaration{space: valueSpace, name: name})
	}
	return list
}

// variablesOf returns the function, or the variables, that a declaration binds.
func variablesOf(d *api.Decl) []string {
	switch d.Op {
	case api.DFun:
		return []string{d.Name}
	case api.DPat:
		return syntax.Binders(d.Pat)
	}
	return nil
}

// variables returns the functions and variables that the declarations of a block bind.
func variables(decls []api.Decl) []string {
	var list []string
	for i := range decls {
		list = append(list, variablesOf(&decls[i])...)
	}
	return list
}

// partsOfData returns the constructors and then the labels of a data declaration, each label once.
func partsOfData(d *api.Decl) []string {
	var cons, labels []string
	for _, con := range d.Cons {
		cons = append(cons, con.Name)
		labels = append(labels, con.Labels...)
	}
	return append(cons, trees.Distinct(labels)...)
}

// methodsOf returns the methods of a class declaration, as often as they have a signature.
func methodsOf(d *api.Decl) []string {
	var methods []string
	for _, member := range d.Decls {
		if member.Op == api.DSig {
			methods = append(methods, member.Names...)
		}
	}
	return methods
}

// canDeclare reports whether all declared names can be qualified, or are built in, which is a fault of another kind.
func canDeclare(m *api.Module) bool {
	isName := func(name string) bool { return names.Join(m.Name, name) != "" || base.Builtin(name) }
	for i := range m.Decls {
		for _, d := range declared(&m.Decls[i]) {
			if !isName(d.name) || !each(d.parts, isName) {
				return false
			}
		}
	}
	return true
}

// each reports whether all names of a list are of a sort.
func each(list []string, is func(string) bool) bool {
	return !slices.ContainsFunc(list, func(name string) bool { return !is(name) })
}

// twice returns the first declared name that was declared before, or is built in.
func twice(decls []api.Decl) api.Fault {
	taken := map[entity]bool{}
	isNew := func(s space, name string) bool {
		e := entity{s, name}
		if taken[e] || base.Builtin(name) {
			return false
		}
		taken[e] = true
		return true
	}
	for i := range decls {
		for _, d := range declared(&decls[i]) {
			if !isNew(d.space, d.name) {
				return api.Fault{Code: api.ErrTwice, Name: d.name}
			}
			for _, part := range d.parts {
				if !isNew(valueSpace, part) {
					return api.Fault{Code: api.ErrTwice, Name: part}
				}
			}
		}
		if label, ok := repeatedLabel(decls[i].Cons); ok {
			return api.Fault{Code: api.ErrTwice, Name: label}
		}
	}
	return api.Fault{}
}

// repeatedLabel returns the first label that occurs twice in one constructor, if there is one.
func repeatedLabel(cons []api.ConDecl) (string, bool) {
	for _, con := range cons {
		if label, ok := repeated(con.Labels); ok {
			return label, true
		}
	}
	return "", false
}

// repeated returns the first name that occurs a second time, if there is one.
func repeated(list []string) (string, bool) {
	seen := map[string]bool{}
	for _, name := range list {
		if seen[name] {
			return name, true
		}
		seen[name] = true
	}
	return "", false
}
