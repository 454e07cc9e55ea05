package scope

import "lazyc/api"

// binders finds out whether a name is bound twice.
type binders struct {
	found map[string]bool
	twice bool
}

func (b *binders) bind(names []string) {
	for _, name := range names {
		b.twice = b.twice || b.found[name]
		b.found[name] = true
	}
}

func (b *binders) decls(list []api.Decl) {
	b.bind(variables(list))
	for i := range list {
		b.parts(&list[i])
	}
}

// parts visits the parts of a declaration. The definitions in a class or an instance bind nothing themselves.
func (b *binders) parts(d *api.Decl) {
	for i := range d.Decls {
		b.parts(&d.Decls[i])
	}
	for _, c := range d.Clauses {
		b.bind(bindersOf(c.Pats))
		b.rhs(c.Rhs)
		b.decls(c.Where)
	}
	b.rhs(d.Rhs)
	b.decls(d.Where)
}

func (b *binders) rhs(list []api.Rhs) {
	for i := range list {
		b.exprs(list[i].Guard)
		b.expr(&list[i].Body)
	}
}

func (b *binders) exprs(list []api.Expr) {
	for i := range list {
		b.expr(&list[i])
	}
}

func (b *binders) expr(e *api.Expr) {
	b.bind(bindersOf(e.Pats))
	b.decls(e.Decls)
	b.exprs(e.Kids)
	for _, a := range e.Alts {
		b.bind(bindersOf([]api.Pat{a.Pat}))
		b.rhs(a.Rhs)
		b.decls(a.Where)
	}
	for i := range e.Stmts {
		s := &e.Stmts[i]
		b.bind(bindersOf([]api.Pat{s.Pat}))
		b.expr(&s.Expr)
		b.decls(s.Decls)
	}
	for i := range e.Fields {
		b.expr(&e.Fields[i].Expr)
	}
}
