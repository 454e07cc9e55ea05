package parser

import "lazyc/api"

// topDecl reads a declaration at top level.
func (p *parser) topDecl() api.Decl {
	switch {
	case p.accepts("data"):
		return p.dataDecl()
	case p.accepts("class"):
		return p.classDecl()
	case p.accepts("instance"):
		return p.instanceDecl()
	}
	return p.decl()
}

// decl reads a declaration that is possible everywhere.
func (p *parser) decl() api.Decl {
	switch {
	case p.accepts("infix"):
		return p.fixityDecl(api.AssocNone)
	case p.accepts("infixl"):
		return p.fixityDecl(api.AssocLeft)
	case p.accepts("infixr"):
		return p.fixityDecl(api.AssocRight)
	case p.seesSignature():
		return p.signature()
	}
	return p.equation()
}

// seesSignature reports whether a variable with a comma or a double colon behind it begins here.
func (p *parser) seesSignature() bool {
	behind := 1
	if p.sees("(") && p.isName(1, api.TokOp, false) && p.seesAt(2, ")") {
		behind = 3
	} else if !p.isName(0, api.TokVar, false) {
		return false
	}
	return p.seesAt(behind, ",") || p.seesAt(behind, "::")
}

func (p *parser) signature() api.Decl {
	d := api.Decl{Op: api.DSig, Names: separated(p, ",", p.variable)}
	p.expect("::")
	d.Preds, d.Type = p.qualifiedType()
	return d
}

func (p *parser) fixityDecl(assoc api.Assoc) api.Decl {
	d := api.Decl{Op: api.DFix, Assoc: assoc, N: 9}
	if tok := p.peek(0); tok.Op == api.TokInt {
		d.N = p.take(api.TokInt).N
	}
	d.Names = separated(p, ",", p.plainOperator)
	return d
}

func (p *parser) equation() api.Decl {
	left := p.side()
	rhs := p.rightSides("=")
	where := p.where()
	if !left.isFun {
		return api.Decl{Op: api.DPat, Pat: left.pat, Rhs: rhs, Where: where}
	}
	clause := api.Clause{Pats: left.pats, Rhs: rhs, Where: where}
	return api.Decl{Op: api.DFun, Name: left.name, Clauses: []api.Clause{clause}}
}

// locals reads a block of declarations that are possible everywhere.
func (p *parser) locals() []api.Decl { return p.declBlock(p.decl) }

// declBlock reads a block of declarations.
func (p *parser) declBlock(read func() api.Decl) []api.Decl {
	var m merger
	block(p, func() bool {
		start := p.at
		m.add(p, read(), start)
		return true
	})
	return m.decls
}

// merger joins the clauses of functions.
type merger struct {
	decls []api.Decl
	start int // where the last one of decls begins
}

// add appends a declaration of a block; a further clause goes to the function before it.
func (m *merger) add(p *parser, d api.Decl, start int) {
	last := len(m.decls) - 1
	if last < 0 || !isFurther(m.decls[last], d) {
		m.decls, m.start = append(m.decls, d), start
		return
	}
	f := &m.decls[last]
	if len(f.Clauses[0].Pats) != len(d.Clauses[0].Pats) {
		p.odd.note(f.Name, m.start)
	}
	f.Clauses = append(f.Clauses, d.Clauses...)
}

// isFurther reports whether a declaration has a further clause of the function before it.
func isFurther(before, d api.Decl) bool {
	return before.Op == api.DFun && d.Op == api.DFun && before.Name == d.Name &&
		len(before.Clauses[0].Pats) > 0 && len(d.Clauses[0].Pats) > 0
}

// note notes a function, unless one that begins before it is noted: blocks inside a function end before it does.
func (o *oddFunction) note(name string, start int) {
	if o.name == "" || start < o.start {
		*o = oddFunction{name: name, start: start}
	}
}
