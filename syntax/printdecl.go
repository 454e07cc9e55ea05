package syntax

import (
	"strconv"

	"lazyc/api"
)

func (p *printer) module(m *api.Module) {
	p.units("module", m.Name)
	if !m.All {
		enclosed(p, "(", m.Exports, ")", p.export)
	}
	p.units("where", "{")
	separated(p, m.Imports, ";", p.imported)
	if len(m.Imports) > 0 && len(m.Decls) > 0 {
		p.units(";")
	}
	separated(p, m.Decls, ";", p.decl)
	p.units("}")
}

// export writes an element of an export or import list.
func (p *printer) export(e *api.Export) {
	p.name(e.Name)
	if e.With {
		p.units("(", "..", ")")
	}
	if len(e.Subs) > 0 {
		enclosed(p, "(", e.Subs, ")", p.listedName)
	}
}

func (p *printer) imported(i *api.Import) {
	p.units("import")
	if i.Qualified {
		p.units("qualified")
	}
	p.units(i.Module)
	if i.As != i.Module {
		p.units("as", i.As)
	}
	if i.Hiding {
		p.units("hiding")
	}
	if !i.All {
		enclosed(p, "(", i.Names, ")", p.export)
	}
}

func (p *printer) decl(d *api.Decl) {
	switch d.Op {
	case api.DData:
		p.data(d)
	case api.DClass:
		p.units("class")
		p.context(d.Preds)
		p.name(d.Name)
		p.units(d.Names...)
		p.where(d.Decls)
	case api.DInst:
		p.units("instance")
		p.context(d.Preds)
		p.name(d.Class)
		p.atype(&d.Type)
		p.where(d.Decls)
	case api.DSig:
		separated(p, d.Names, ",", p.listedName)
		p.units("::")
		p.context(d.Preds)
		p.typ(&d.Type)
	case api.DFix:
		p.units(assocWord(d.Assoc), strconv.Itoa(d.N))
		separated(p, d.Names, ",", func(name *string) { p.symbol(*name) })
	case api.DFun:
		separated(p, d.Clauses, ";", func(c *api.Clause) {
			p.name(d.Name)
			p.params(c.Pats)
			p.rhs("=", c.Rhs, c.Where)
		})
	case api.DPat:
		p.pat(&d.Pat)
		p.rhs("=", d.Rhs, d.Where)
	}
}

func assocWord(a api.Assoc) string {
	switch a {
	case api.AssocLeft:
		return "infixl"
	case api.AssocRight:
		return "infixr"
	}
	return "infix"
}

// where writes the declarations of a block, if there are any.
func (p *printer) where(decls []api.Decl) {
	if len(decls) > 0 {
		p.units("where")
		block(p, decls, p.decl)
	}
}

// rhs writes right-hand sides, with a sign before each expression, and their where part.
func (p *printer) rhs(sign string, list []api.Rhs, where []api.Decl) {
	for i := range list {
		for j := range list[i].Guard {
			p.units("|")
			p.expr(&list[i].Guard[j])
		}
		p.units(sign)
		p.expr(&list[i].Body)
	}
	p.where(where)
}

func (p *printer) data(d *api.Decl) {
	p.units("data")
	p.name(d.Name)
	p.units(d.Names...)
	if len(d.Cons) > 0 {
		p.units("=")
		separated(p, d.Cons, "|", p.conDecl)
	}
	if len(d.Derive) > 0 {
		p.units("deriving")
		enclosed(p, "(", d.Derive, ")", p.listedName)
	}
}

func (p *printer) conDecl(c *api.ConDecl) {
	p.name(c.Name)
	if len(c.Labels) == 0 {
		for i := range c.Fields {
			p.atype(&c.Fields[i])
		}
		return
	}
	p.units("{")
	p.numbered(len(c.Fields), ",", func(i int) {
		p.name(c.Labels[i])
		p.units("::")
		p.typ(&c.Fields[i])
	})
	p.units("}")
}
