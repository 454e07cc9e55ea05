package parser

import "lazyc/api"

// mainName is the name of a module without a header.
const mainName = "Main"

func (p *parser) module() api.Module {
	m := api.Module{Name: mainName, All: true}
	if p.accepts("module") {
		m.Name = p.moduleName()
		if p.sees("(") {
			m.All, m.Exports = false, p.entities()
		}
		p.expect("where")
	}
	p.moduleBlock(&m)
	return m
}

// moduleBlock reads imports and then declarations.
func (p *parser) moduleBlock(m *api.Module) {
	var all merger
	block(p, func() bool {
		start := p.at
		if len(all.decls) == 0 && p.accepts("import") {
			m.Imports = append(m.Imports, p.importDecl())
		} else {
			all.add(p, p.topDecl(), start)
		}
		return true
	})
	m.Decls = all.decls
}

// importDecl reads what follows import.
func (p *parser) importDecl() api.Import {
	i := api.Import{Qualified: p.accepts("qualified")}
	i.Module = p.moduleName()
	i.As = i.Module
	if p.accepts("as") {
		i.As = p.moduleName()
	}
	i.Hiding = p.accepts("hiding")
	if i.Hiding || p.sees("(") {
		i.Names = p.entities()
	} else {
		i.All = true
	}
	return i
}

func (p *parser) entities() []api.Export { return listed(p, "(", ")", p.entity) }

// entity reads an element of an export or import list.
func (p *parser) entity() api.Export {
	if !p.begins(anyConstructors()) {
		return api.Export{Name: p.name(anyVariables())}
	}
	e := api.Export{Name: p.anyConstructor()}
	if !p.sees("(") {
		return e
	}
	if p.seesAt(1, "..") {
		p.at += 2
		p.expect(")")
		e.With = true
	} else {
		e.Subs = listed(p, "(", ")", p.part)
	}
	return e
}

// part reads a constructor, field or method in the list of a type or class.
func (p *parser) part() string {
	if p.begins(constructors()) {
		return p.constructor()
	}
	return p.variable()
}
