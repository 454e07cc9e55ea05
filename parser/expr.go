package parser

import "lazyc/api"

// exp reads an expression, as far as it extends.
func (p *parser) exp() api.Expr { return p.signed(p.infixExp(false)) }

// signed reads the signature behind an expression, if there is one.
func (p *parser) signed(e api.Expr) api.Expr {
	if !p.accepts("::") {
		return e
	}
	preds, t := p.qualifiedType()
	return api.Expr{Op: api.ESig, Kids: []api.Expr{e}, Preds: preds, Types: []api.Type{t}}
}

// infixExp reads operands and operators, as far as they extend; where a left section is possible, its operator is left.
func (p *parser) infixExp(section bool) api.Expr {
	var e api.Expr
	for {
		minus := p.seesMinus(0)
		if minus {
			p.at++
		}
		e.Neg = append(e.Neg, minus)
		operand := p.operandExp()
		e.Kids = append(e.Kids, operand)
		if !p.seesOperator() || section && p.endsSection() && isClosed(operand) {
			break
		}
		e.Names = append(e.Names, p.anyOperator())
	}
	if len(e.Kids) == 1 && !e.Neg[0] {
		return e.Kids[0]
	}
	e.Op = api.EInfix
	return e
}

// endsSection reports whether a closing parenthesis follows the operator that begins here.
func (p *parser) endsSection() bool {
	if p.sees("`") {
		return p.seesAt(2, "`") && p.seesAt(3, ")")
	}
	return p.seesAt(1, ")")
}

// isClosed reports whether an operand does not extend over the operators behind it.
func isClosed(e api.Expr) bool { return e.Op != api.ELam && e.Op != api.ELet && e.Op != api.EIf }

// operandExp reads an operand.
func (p *parser) operandExp() api.Expr {
	switch {
	case p.accepts("\\"):
		p.require(p.beginsArg())
		pats := p.argPats()
		p.expect("->")
		return api.Expr{Op: api.ELam, Pats: pats, Kids: []api.Expr{p.exp()}}
	case p.accepts("let"):
		decls := p.locals()
		p.expect("in")
		return api.Expr{Op: api.ELet, Decls: decls, Kids: []api.Expr{p.exp()}}
	case p.accepts("if"):
		return p.conditional()
	case p.accepts("case"):
		e := p.exp()
		p.expect("of")
		return api.Expr{Op: api.ECase, Kids: []api.Expr{e}, Alts: block(p, p.alt)}
	case p.accepts("do"):
		return api.Expr{Op: api.EDo, Stmts: block(p, p.stmt)}
	}
	return p.application()
}

// conditional reads what follows if. A semicolon, which a block around it may insert, may precede then and else.
func (p *parser) conditional() api.Expr {
	kids := []api.Expr{p.exp()}
	for _, word := range []string{"then", "else"} {
		p.accepts(";")
		p.expect(word)
		kids = append(kids, p.exp())
	}
	return api.Expr{Op: api.EIf, Kids: kids}
}

func (p *parser) alt() api.Alt {
	pat := p.pat()
	rhs := p.rightSides("->")
	return api.Alt{Pat: pat, Rhs: rhs, Where: p.where()}
}

// rightSides reads right-hand sides, with the sign that precedes their bodies.
func (p *parser) rightSides(sign string) []api.Rhs {
	if p.accepts(sign) {
		return []api.Rhs{{Body: p.exp()}}
	}
	p.expect("|")
	return separated(p, "|", func() api.Rhs {
		guard := p.exp()
		p.expect(sign)
		return api.Rhs{Guard: []api.Expr{guard}, Body: p.exp()}
	})
}

// where reads a where part, if there is one.
func (p *parser) where() []api.Decl {
	if !p.accepts("where") {
		return nil
	}
	return p.locals()
}

func (p *parser) stmt() api.Stmt {
	if p.accepts("let") {
		return p.letStmt()
	}
	pat, ok := attempt(p, func() api.Pat {
		pat := p.pat()
		p.expect("<-")
		return pat
	})
	if ok {
		return api.Stmt{Op: api.StmtGen, Pat: pat, Expr: p.exp()}
	}
	return api.Stmt{Op: api.StmtExp, Expr: p.exp()}
}

// letStmt reads what follows let in a statement: with in, the statement is this let expression alone.
func (p *parser) letStmt() api.Stmt {
	decls := p.locals()
	if !p.accepts("in") {
		return api.Stmt{Op: api.StmtLet, Decls: decls}
	}
	return api.Stmt{Op: api.StmtExp, Expr: api.Expr{Op: api.ELet, Decls: decls, Kids: []api.Expr{p.exp()}}}
}
