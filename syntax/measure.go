package syntax

import (
	"lazyc/api"
	"lazyc/types"
)

// measure adds up what the limits bound. Its methods add a part, whatever it is, and return its nesting, or that of its parts if its own does not count.
type measure struct {
	size int
	long bool // whether a list or a string is too long
}

// limit notes the lengths of lists, or of a string, that must not be too long.
func (m *measure) limit(lengths ...int) {
	for _, length := range lengths {
		m.long = m.long || length > api.MaxString
	}
}

// deepest returns the greatest nesting of the elements of a list, or 0.
func deepest[T any](list []T, nesting func(*T) int) int {
	greatest := 0
	for i := range list {
		greatest = max(greatest, nesting(&list[i]))
	}
	return greatest
}

// module returns the greatest nesting of the declarations.
func (m *measure) module(mod *api.Module) int {
	m.size += len(mod.Exports) + len(mod.Imports)
	for i := range mod.Imports {
		m.size += len(mod.Imports[i].Names)
	}
	return deepest(mod.Decls, m.decl)
}

func (m *measure) decl(d *api.Decl) int {
	m.size++
	m.limit(len(d.Clauses), len(d.Decls), len(d.Where))
	for i := range d.Cons {
		m.size++
		m.types(d.Cons[i].Fields...)
	}
	m.preds(d.Preds)
	m.types(d.Type)
	return 1 + max(deepest(d.Decls, m.decl), deepest(d.Clauses, m.clause), m.pat(&d.Pat), deepest(d.Rhs, m.rhs), deepest(d.Where, m.decl))
}

func (m *measure) clause(c *api.Clause) int {
	m.size++
	m.limit(len(c.Where))
	return 1 + max(deepest(c.Pats, m.pat), deepest(c.Rhs, m.rhs), deepest(c.Where, m.decl))
}

func (m *measure) alt(a *api.Alt) int {
	m.size++
	m.limit(len(a.Where))
	return 1 + max(m.pat(&a.Pat), deepest(a.Rhs, m.rhs), deepest(a.Where, m.decl))
}

func (m *measure) rhs(r *api.Rhs) int {
	m.size++
	return 1 + max(deepest(r.Guard, m.expr), m.expr(&r.Body))
}

func (m *measure) stmt(s *api.Stmt) int {
	m.size++
	m.limit(len(s.Decls))
	return 1 + max(m.pat(&s.Pat), m.expr(&s.Expr), deepest(s.Decls, m.decl))
}

func (m *measure) expr(e *api.Expr) int {
	if e.Op == 0 {
		return 0
	}
	m.size++
	m.limit(len(e.Alts), len(e.Decls), len(e.Stmts))
	switch e.Op {
	case api.EList:
		m.limit(len(e.Kids))
	case api.EString:
		m.limit(len(e.Text))
	}
	m.preds(e.Preds)
	m.types(e.Types...)
	return 1 + max(deepest(e.Kids, m.expr), deepest(e.Pats, m.pat), deepest(e.Alts, m.alt),
		deepest(e.Decls, m.decl), deepest(e.Stmts, m.stmt), deepest(e.Fields, m.field))
}

func (m *measure) field(f *api.Field) int {
	m.size++
	return m.expr(&f.Expr)
}

func (m *measure) pat(p *api.Pat) int {
	if p.Op == 0 {
		return 0
	}
	m.size++
	switch p.Op {
	case api.PList:
		m.limit(len(p.Kids))
	case api.PString:
		m.limit(len(p.Text))
	}
	return 1 + deepest(p.Kids, m.pat)
}

func (m *measure) preds(list []api.Pred) {
	for _, pred := range list {
		m.size++
		m.types(pred.Type)
	}
}

func (m *measure) types(list ...api.Type) {
	for _, t := range list {
		if t.Op != 0 {
			m.size += types.Size(t)
		}
	}
}
