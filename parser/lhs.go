package parser

import "lazyc/api"

// side is the left side of an equation: a pattern, unless isFun is set; then it is that of the function name with the patterns pats. A variable by itself is both.
type side struct {
	isFun bool
	name  string
	pats  []api.Pat
	pat   api.Pat
}

// side reads the left side of an equation, as far as it extends.
func (p *parser) side() side {
	switch {
	case p.beginsVariable():
		return p.variableSide()
	case p.beginsSide():
		return p.parenSide()
	}
	return p.operatorSide(p.operandPat())
}

// beginsSide reports whether a parenthesis begins here that may contain a left side.
func (p *parser) beginsSide() bool {
	return p.sees("(") && !p.seesAt(1, ")") && !p.seesAt(1, ",") && !p.begins(anyConstructors())
}

// variableSide reads a left side that begins with a variable.
func (p *parser) variableSide() side {
	pat := p.variablePat()
	switch {
	case pat.Op == api.PAs:
		return p.operatorSide(pat)
	case p.beginsArg():
		return side{isFun: true, name: pat.Name, pats: p.argPats()}
	}
	return p.operatorSide(pat)
}

// parenSide reads a left side that begins with a parenthesis.
func (p *parser) parenSide() side {
	p.expect("(")
	inner := p.side()
	if inner.isPat() {
		parts := []api.Pat{inner.pat}
		if p.accepts(",") {
			parts = append(parts, separated(p, ",", p.pat)...)
		}
		p.expect(")")
		if len(parts) > 1 || !inner.isFun || !p.beginsArg() {
			return p.operatorSide(tuplePat(parts))
		}
	} else {
		p.expect(")")
		p.require(p.beginsArg())
	}
	return side{isFun: true, name: inner.name, pats: append(inner.pats, p.argPats()...)}
}

// isPat reports whether the side is a pattern, possibly also a function without parameters.
func (s side) isPat() bool { return s.pat.Op != 0 }

// operatorSide reads the operators and operands behind a first operand.
func (p *parser) operatorSide(first api.Pat) side {
	pat := p.infixPat(first, func() bool { return p.seesConOperator() && !p.seesVarOperator() })
	if !p.seesVarOperator() {
		return side{isFun: pat.Op == api.PVar, name: pat.Name, pat: pat}
	}
	name := p.varOperator()
	return side{isFun: true, name: name, pats: []api.Pat{single(pat), single(p.pat())}}
}

// single returns a pattern as it stands among the parameters of a function.
func single(p api.Pat) api.Pat {
	if p.Op == api.PInfix || p.Op == api.PInt && p.N < 0 || p.Op == api.PCon && len(p.Kids) > 0 {
		return api.Pat{Op: api.PParen, Kids: []api.Pat{p}}
	}
	return p
}
