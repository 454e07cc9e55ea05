// Package trees copies the trees of the surface language, so that a layer that changes some nodes need not name the others; it also copies and compares types, schemes and kernel expressions, and copies environments and kernel modules. It belongs to no layer.
package trees

import (
	"slices"

	"lazyc/api"
)

// Copier copies well-formed trees, part by part in the order of the text. A copy shares no memory with its source.
// A hook that is set is called for each node of its sort, after the node's parts have been copied.
type Copier struct {
	OnExpr func(source, copied api.Expr) api.Expr // returns what takes the place of the copy
	OnPat  func(copied api.Pat) api.Pat           // returns what takes the place of the copy
	OnDecl func(copied api.Decl)
}

// Module copies a module.
func (c *Copier) Module(m api.Module) api.Module {
	m.Exports = Exports(m.Exports)
	m.Imports = Imports(m.Imports)
	m.Decls = Map(m.Decls, c.Decl)
	return m
}

// Decl copies a declaration.
func (c *Copier) Decl(d api.Decl) api.Decl {
	d.Names = slices.Clone(d.Names)
	d.Cons = Map(d.Cons, copyCon)
	d.Derive = slices.Clone(d.Derive)
	d.Preds = Map(d.Preds, copyPred)
	d.Type = Type(d.Type)
	d.Decls = Map(d.Decls, c.Decl)
	d.Clauses = Map(d.Clauses, c.clause)
	d.Pat = c.Pat(d.Pat)
	d.Rhs = Map(d.Rhs, c.rhs)
	d.Where = Map(d.Where, c.Decl)
	if c.OnDecl != nil {
		c.OnDecl(d)
	}
	return d
}

// Expr copies an expression. The order of the parts is that of the text for every form.
func (c *Copier) Expr(e api.Expr) api.Expr {
	source := e
	e.Pats = Map(e.Pats, c.Pat)
	e.Decls = Map(e.Decls, c.Decl)
	e.Kids = Map(e.Kids, c.Expr)
	e.Alts = Map(e.Alts, c.alt)
	e.Stmts = Map(e.Stmts, c.stmt)
	e.Fields = Map(e.Fields, c.field)
	e.Names = slices.Clone(e.Names)
	e.Neg = slices.Clone(e.Neg)
	e.Preds = Map(e.Preds, copyPred)
	e.Types = Map(e.Types, Type)
	if c.OnExpr != nil {
		return c.OnExpr(source, e)
	}
	return e
}

// Pat copies a pattern.
func (c *Copier) Pat(p api.Pat) api.Pat {
	p.Kids = Map(p.Kids, c.Pat)
	p.Names = slices.Clone(p.Names)
	if c.OnPat != nil {
		return c.OnPat(p)
	}
	return p
}

func (c *Copier) clause(clause api.Clause) api.Clause {
	return api.Clause{Pats: Map(clause.Pats, c.Pat), Rhs: Map(clause.Rhs, c.rhs), Where: Map(clause.Where, c.Decl)}
}

func (c *Copier) rhs(rhs api.Rhs) api.Rhs {
	return api.Rhs{Guard: Map(rhs.Guard, c.Expr), Body: c.Expr(rhs.Body)}
}

func (c *Copier) alt(a api.Alt) api.Alt {
	return api.Alt{Pat: c.Pat(a.Pat), Rhs: Map(a.Rhs, c.rhs), Where: Map(a.Where, c.Decl)}
}

func (c *Copier) stmt(s api.Stmt) api.Stmt {
	return api.Stmt{Op: s.Op, Pat: c.Pat(s.Pat), Expr: c.Expr(s.Expr), Decls: Map(s.Decls, c.Decl)}
}

func (c *Copier) field(f api.Field) api.Field {
	return api.Field{Name: f.Name, Expr: c.Expr(f.Expr)}
}

// Exports copies export lists.
func Exports(list []api.Export) []api.Export { return Map(list, copyExport) }

// Imports copies import declarations.
func Imports(list []api.Import) []api.Import {
	return Map(list, func(i api.Import) api.Import {
		i.Names = Exports(i.Names)
		return i
	})
}

func copyCon(c api.ConDecl) api.ConDecl {
	return api.ConDecl{Name: c.Name, Fields: Map(c.Fields, Type), Labels: slices.Clone(c.Labels)}
}

func copyExport(e api.Export) api.Export {
	e.Subs = slices.Clone(e.Subs)
	return e
}

func copyPred(p api.Pred) api.Pred { return api.Pred{Class: p.Class, Type: Type(p.Type)} }

// Bound returns the names of the functions, and of the variables of patterns, that occur anywhere in a module.
func Bound(m api.Module) []string {
	var bound []string
	c := Copier{
		OnDecl: func(d api.Decl) {
			if d.Op == api.DFun {
				bound = append(bound, d.Name)
			}
		},
		OnPat: func(p api.Pat) api.Pat {
			if p.Op == api.PVar || p.Op == api.PAs {
				bound = append(bound, p.Name)
			}
			return p
		},
	}
	c.Module(m)
	return bound
}

// Map returns what f makes of the elements of a list, in their order.
func Map[A, B any](list []A, f func(A) B) []B {
	var results []B
	for _, element := range list {
		results = append(results, f(element))
	}
	return results
}

// Distinct returns the names of a list, each once, in the order of their first occurrence.
func Distinct(list []string) []string {
	var once []string
	seen := map[string]bool{}
	for _, name := range list {
		if !seen[name] {
			seen[name] = true
			once = append(once, name)
		}
	}
	return once
}
