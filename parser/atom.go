package parser

import "lazyc/api"

// application reads a function with as many arguments as there are.
func (p *parser) application() api.Expr {
	e := p.atom()
	for p.beginsAtom() {
		e = api.Expr{Op: api.EApp, Kids: []api.Expr{e, p.atom()}}
	}
	return e
}

func (p *parser) beginsAtom() bool {
	switch p.peek(0).Op {
	case api.TokVar, api.TokCon, api.TokInt, api.TokChar, api.TokString:
		return true
	}
	return p.sees("(") || p.sees("[")
}

// atom reads an expression that stands by itself, with the braces of records behind it.
func (p *parser) atom() api.Expr {
	e := p.simple()
	for p.sees("{") {
		fields := listed(p, "{", "}", p.field)
		if e.Op == api.ECon {
			e = api.Expr{Op: api.ERecord, Name: e.Name, Fields: fields}
		} else {
			e = api.Expr{Op: api.EUpdate, Kids: []api.Expr{e}, Fields: fields}
		}
	}
	return e
}

func (p *parser) field() api.Field {
	name := p.variable()
	p.expect("=")
	return api.Field{Name: name, Expr: p.exp()}
}

func (p *parser) simple() api.Expr {
	tok := p.peek(0)
	switch tok.Op {
	case api.TokVar:
		return api.Expr{Op: api.EVar, Name: p.name(anyVariables())}
	case api.TokCon:
		return api.Expr{Op: api.ECon, Name: p.name(anyConstructors())}
	case api.TokInt:
		p.at++
		return api.Expr{Op: api.EInt, N: tok.N}
	case api.TokChar:
		p.at++
		return api.Expr{Op: api.EChar, N: tok.N}
	case api.TokString:
		p.at++
		return api.Expr{Op: api.EString, Text: tok.Text}
	}
	if p.sees("[") {
		return p.brackets()
	}
	return p.parens()
}

// brackets reads a list, a list comprehension or an arithmetic sequence.
func (p *parser) brackets() api.Expr {
	p.expect("[")
	if p.accepts("]") {
		return api.Expr{Op: api.EList}
	}
	e := api.Expr{Op: api.EList, Kids: separated(p, ",", p.exp)}
	if len(e.Kids) == 1 {
		switch {
		case p.accepts(".."):
			e.Op, e.Kids = api.ERange, append(e.Kids, p.exp())
		case p.accepts("|"):
			e.Op, e.Stmts = api.EComp, separated(p, ",", p.stmt)
		}
	}
	p.expect("]")
	return e
}

// parens reads what stands in parentheses.
func (p *parser) parens() api.Expr {
	if p.sees("(") && p.seesAt(1, ",") {
		return api.Expr{Op: api.ECon, Name: p.commas()}
	}
	named := p.seesAt(2, ")")
	switch {
	case named && p.isName(1, api.TokOp, true):
		return api.Expr{Op: api.EVar, Name: p.name(anyVariables())}
	case named && p.isName(1, api.TokConOp, true):
		return api.Expr{Op: api.ECon, Name: p.name(anyConstructors())}
	}
	p.expect("(")
	switch {
	case p.accepts(")"):
		return api.Expr{Op: api.ETuple}
	case p.seesOperator() && !p.seesMinus(0):
		return p.rightSection()
	}
	return p.afterParen(p.infixExp(true))
}

func (p *parser) rightSection() api.Expr {
	name := p.anyOperator()
	e := p.infixExp(false)
	p.expect(")")
	return api.Expr{Op: api.ERight, Name: name, Kids: []api.Expr{e}}
}

// afterParen reads what follows the first operands in parentheses.
func (p *parser) afterParen(first api.Expr) api.Expr {
	e := api.Expr{Op: api.EParen}
	if p.seesOperator() {
		e.Op, e.Name, e.Kids = api.ELeft, p.anyOperator(), []api.Expr{first}
	} else {
		e.Kids = []api.Expr{p.signed(first)}
		if p.accepts(",") {
			e.Op, e.Kids = api.ETuple, append(e.Kids, separated(p, ",", p.exp)...)
		}
	}
	p.expect(")")
	return e
}
