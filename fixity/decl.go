package fixity

import (
	"slices"

	"lazyc/api"
	"lazyc/types"
)

func (r *resolver) module(m api.Module) api.Module {
	m.Exports = mapped(m.Exports, copyExport)
	m.Imports = mapped(m.Imports, copyImport)
	m.Decls = mapped(m.Decls, r.decl)
	return m
}

func (r *resolver) decl(d api.Decl) api.Decl {
	d.Names = slices.Clone(d.Names)
	d.Cons = mapped(d.Cons, copyCon)
	d.Derive = slices.Clone(d.Derive)
	d.Preds = mapped(d.Preds, copyPred)
	d.Type = copyType(d.Type)
	d.Decls = mapped(d.Decls, r.decl)
	d.Clauses = mapped(d.Clauses, r.clause)
	d.Pat = r.pat(d.Pat)
	d.Rhs = mapped(d.Rhs, r.rhs)
	d.Where = mapped(d.Where, r.decl)
	return d
}

func (r *resolver) clause(c api.Clause) api.Clause {
	return api.Clause{Pats: mapped(c.Pats, r.pat), Rhs: mapped(c.Rhs, r.rhs), Where: mapped(c.Where, r.decl)}
}

func copyCon(c api.ConDecl) api.ConDecl {
	return api.ConDecl{Name: c.Name, Fields: mapped(c.Fields, copyType), Labels: slices.Clone(c.Labels)}
}

func copyExport(e api.Export) api.Export {
	e.Subs = slices.Clone(e.Subs)
	return e
}

func copyImport(i api.Import) api.Import {
	i.Names = mapped(i.Names, copyExport)
	return i
}

func copyPred(p api.Pred) api.Pred { return api.Pred{Class: p.Class, Type: copyType(p.Type)} }

// copyType returns a copy that shares no memory with t.
func copyType(t api.Type) api.Type { return types.Apply(t) }

// mapped returns what f makes of the elements of a list, in their order.
func mapped[T any](list []T, f func(T) T) []T {
	var results []T
	for _, element := range list {
		results = append(results, f(element))
	}
	return results
}
