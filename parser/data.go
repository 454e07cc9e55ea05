package parser

import "lazyc/api"

// dataDecl reads what follows data.
func (p *parser) dataDecl() api.Decl {
	d := api.Decl{Op: api.DData, Name: p.constructor()}
	for p.seesTypeVar() {
		d.Names = append(d.Names, p.typeVarName())
	}
	if p.accepts("=") {
		d.Cons = separated(p, "|", p.conDecl)
	}
	if p.accepts("deriving") {
		d.Derive = listed(p, "(", ")", p.anyConstructor)
	}
	return d
}

// conDecl reads the declaration of a constructor; what stands before an operator can look like one of another form.
func (p *parser) conDecl() api.ConDecl {
	if c, ok := attempt(p, p.infixConDecl); ok {
		return c
	}
	name := p.constructor()
	if p.sees("{") {
		return p.recordDecl(name)
	}
	return api.ConDecl{Name: name, Fields: p.atomTypes()}
}

func (p *parser) infixConDecl() api.ConDecl {
	left := p.appType()
	name := p.conOperator()
	return api.ConDecl{Name: name, Fields: []api.Type{left, p.appType()}}
}

// recordDecl reads the labelled fields of a constructor.
func (p *parser) recordDecl(name string) api.ConDecl {
	c := api.ConDecl{Name: name}
	listed(p, "{", "}", func() bool {
		labels := separated(p, ",", p.variable)
		p.expect("::")
		t := p.typ()
		for _, label := range labels {
			c.Labels = append(c.Labels, label)
			c.Fields = append(c.Fields, copyOf(t))
		}
		return true
	})
	return c
}

// classDecl reads what follows class.
func (p *parser) classDecl() api.Decl {
	d := api.Decl{Op: api.DClass, Preds: p.context()}
	d.Name = p.constructor()
	d.Names = []string{p.typeVarName()}
	d.Decls = p.where()
	return d
}

// instanceDecl reads what follows instance.
func (p *parser) instanceDecl() api.Decl {
	d := api.Decl{Op: api.DInst, Preds: p.context()}
	d.Class = p.anyConstructor()
	d.Type = p.atomType()
	d.Decls = p.where()
	return d
}
