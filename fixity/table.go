package fixity

import (
	"slices"

	"lazyc/api"
	"lazyc/syntax"
)

// Table returns the fixities that hold at the top level of a module: its own ones, and the imported ones for other operators.
func Table(imported []api.Fixity, m api.Module) ([]api.Fixity, api.Fault) {
	if !areValid(imported) || syntax.Check(m) != api.OK {
		return nil, api.Fault{Code: api.ErrArg}
	}
	declared := declaredNames(m.Decls)
	table, fault := ownFixities(m.Decls, declared)
	if fault != (api.Fault{}) {
		return nil, fault
	}
	for _, f := range imported {
		if !declared[f.Name] {
			table = append(table, f)
		}
	}
	return table, api.Fault{}
}

// ownFixities returns the fixities that declarations state.
func ownFixities(decls []api.Decl, declared map[string]bool) ([]api.Fixity, api.Fault) {
	var own []api.Fixity
	stated := map[string]bool{}
	for _, d := range decls {
		if d.Op != api.DFix {
			continue
		}
		for _, name := range d.Names {
			switch {
			case stated[name]:
				return nil, api.Fault{Code: api.ErrTwice, Name: name}
			case !declared[name]:
				return nil, api.Fault{Code: api.ErrScope, Name: name}
			}
			stated[name] = true
			own = append(own, api.Fixity{Name: name, Prec: d.N, Assoc: d.Assoc})
		}
	}
	return own, api.Fault{}
}

// declaredNames returns the names of values that declarations at top level introduce.
func declaredNames(decls []api.Decl) map[string]bool {
	declared := map[string]bool{}
	for _, d := range decls {
		for _, name := range namesOf(d) {
			declared[name] = true
		}
	}
	return declared
}

func namesOf(d api.Decl) []string {
	switch d.Op {
	case api.DFun:
		return []string{d.Name}
	case api.DPat:
		return syntax.Binders(d.Pat)
	case api.DClass:
		return methods(d)
	case api.DData:
		return constructors(d)
	}
	return nil
}

// methods returns the names that the signatures of a class declare.
func methods(d api.Decl) []string {
	var list []string
	for _, part := range d.Decls {
		if part.Op == api.DSig {
			list = append(list, part.Names...)
		}
	}
	return list
}

// constructors returns the names of constructors and fields.
func constructors(d api.Decl) []string {
	var list []string
	for _, c := range d.Cons {
		list = append(append(list, c.Name), c.Labels...)
	}
	return list
}

// Find returns the fixity of an operator.
func Find(table []api.Fixity, name string) api.Fixity {
	found := slices.IndexFunc(table, func(f api.Fixity) bool { return f.Name == name })
	if found < 0 {
		return usual(name)
	}
	return table[found]
}

// usual returns the fixity of an operator for which nothing is declared.
func usual(name string) api.Fixity {
	if name == ":" {
		return api.Fixity{Name: name, Prec: 5, Assoc: api.AssocRight}
	}
	return api.Fixity{Name: name, Prec: 9, Assoc: api.AssocLeft}
}

func areValid(table []api.Fixity) bool {
	return !slices.ContainsFunc(table, func(f api.Fixity) bool { return !isValid(f) })
}

func isValid(f api.Fixity) bool {
	switch f.Assoc {
	case api.AssocNone, api.AssocLeft, api.AssocRight:
		return f.Name != "" && f.Prec >= 0 && f.Prec <= 9
	}
	return false
}
