package syntax

import (
	"lazyc/api"
	"lazyc/freevars"
)

// Binders returns the variables of a pattern, in order.
func Binders(p api.Pat) []string { return appendBinders(nil, &p) }

func appendBinders(list []string, p *api.Pat) []string {
	if p.Op == api.PVar || p.Op == api.PAs {
		list = append(list, p.Name)
	}
	for i := range p.Kids {
		list = appendBinders(list, &p.Kids[i])
	}
	return list
}

// bindersOf returns the variables of several patterns.
func bindersOf(pats []api.Pat) []string {
	var list []string
	for i := range pats {
		list = appendBinders(list, &pats[i])
	}
	return list
}

// declared returns the variables that local declarations bind.
func declared(decls []api.Decl) []string {
	var list []string
	for i := range decls {
		switch d := &decls[i]; d.Op {
		case api.DFun:
			list = append(list, d.Name)
		case api.DPat:
			list = appendBinders(list, &d.Pat)
		}
	}
	return list
}

// Free returns the free variables of an expression, in the order of their first occurrence.
func Free(e api.Expr) []string {
	if CheckExpr(e) != api.OK {
		return nil
	}
	f := finder{freevars.New()}
	f.expr(&e)
	return f.Names()
}

// finder collects the free variables of well-formed trees, in the order of the text.
type finder struct {
	*freevars.Finder
}

// occurrence notes a name where it is used; only those of variables count.
func (f *finder) occurrence(name string) {
	if isVariable(name) {
		f.Occurrence(name)
	}
}

func (f *finder) expr(e *api.Expr) {
	switch e.Op {
	case api.EVar:
		f.occurrence(e.Name)
	case api.EInfix:
		f.infix(e)
	case api.ELam:
		f.InScope(bindersOf(e.Pats), func() { f.exprs(e.Kids) })
	case api.ELet:
		f.InScope(declared(e.Decls), func() {
			f.decls(e.Decls)
			f.exprs(e.Kids)
		})
	case api.ECase:
		f.exprs(e.Kids)
		for i := range e.Alts {
			f.alt(&e.Alts[i])
		}
	case api.EDo:
		for _, name := range e.Names {
			f.occurrence(name)
		}
		f.stmts(e.Stmts, func() {})
	case api.EComp:
		f.stmts(e.Stmts, func() { f.exprs(e.Kids) })
	case api.ELeft:
		f.exprs(e.Kids)
		f.occurrence(e.Name)
	case api.ERight:
		f.occurrence(e.Name)
		f.exprs(e.Kids)
	default:
		f.exprs(e.Kids)
		for i := range e.Fields {
			f.expr(&e.Fields[i].Expr)
		}
	}
}

func (f *finder) exprs(list []api.Expr) {
	for i := range list {
		f.expr(&list[i])
	}
}

func (f *finder) infix(e *api.Expr) {
	for i := range e.Kids {
		if i > 0 {
			f.occurrence(e.Names[i-1])
		}
		f.expr(&e.Kids[i])
	}
}

func (f *finder) alt(a *api.Alt) {
	f.InScope(Binders(a.Pat), func() { f.rhs(a.Rhs, a.Where) })
}

// rhs collects from right-hand sides with their where part.
func (f *finder) rhs(list []api.Rhs, where []api.Decl) {
	f.InScope(declared(where), func() {
		for i := range list {
			f.exprs(list[i].Guard)
			f.expr(&list[i].Body)
		}
		f.decls(where)
	})
}

// decls collects from declarations, in the scope that binds their names.
func (f *finder) decls(list []api.Decl) {
	for i := range list {
		d := &list[i]
		for j := range d.Clauses {
			c := &d.Clauses[j]
			f.InScope(bindersOf(c.Pats), func() { f.rhs(c.Rhs, c.Where) })
		}
		f.rhs(d.Rhs, d.Where)
	}
}

// stmts collects from statements, and then from what follows in the scope of all of them.
func (f *finder) stmts(list []api.Stmt, last func()) {
	if len(list) == 0 {
		last()
		return
	}
	rest := func() { f.stmts(list[1:], last) }
	switch s := &list[0]; s.Op {
	case api.StmtGen:
		f.expr(&s.Expr)
		f.InScope(Binders(s.Pat), rest)
	case api.StmtLet:
		f.InScope(declared(s.Decls), func() {
			f.decls(s.Decls)
			rest()
		})
	default:
		f.expr(&s.Expr)
		rest()
	}
}
