package parser

import (
	"strings"

	"lazyc/api"
	"lazyc/names"
)

// sort is a sort of names: the class of those without parentheses, and that of those in parentheses.
type sort struct {
	plain     api.TokenOp
	operator  api.TokenOp
	qualified bool // whether a qualifier is possible
}

func variables() sort { return sort{api.TokVar, api.TokOp, false} }

func constructors() sort { return sort{api.TokCon, api.TokConOp, false} }

// anyVariables are those that may be qualified.
func anyVariables() sort { return sort{api.TokVar, api.TokOp, true} }

func anyConstructors() sort { return sort{api.TokCon, api.TokConOp, true} }

// isName reports whether a token is a name of a class.
func (p *parser) isName(n int, op api.TokenOp, qualified bool) bool {
	tok := p.peek(n)
	return tok.Op == op && (qualified || tok.Qual == "")
}

// begins reports whether a name of the sort begins here, as far as a bracket and one more token show it.
func (p *parser) begins(s sort) bool {
	return p.isName(0, s.plain, s.qualified) || p.sees("(") && p.isName(1, s.operator, s.qualified)
}

// name reads a name of a sort.
func (p *parser) name(s sort) string {
	if p.isName(0, s.plain, s.qualified) {
		return p.plainName(s.plain, s.qualified)
	}
	p.expect("(")
	name := p.plainName(s.operator, s.qualified)
	p.expect(")")
	return name
}

// plainName reads a name of a class.
func (p *parser) plainName(op api.TokenOp, qualified bool) string {
	p.require(p.isName(0, op, qualified))
	tok := p.take(op)
	if tok.Qual == "" {
		return tok.Text
	}
	return names.Join(tok.Qual, tok.Text)
}

func (p *parser) variable() string { return p.name(variables()) }

func (p *parser) constructor() string { return p.name(constructors()) }

func (p *parser) anyConstructor() string { return p.name(anyConstructors()) }

// moduleName reads a constructor that may not stand in parentheses.
func (p *parser) moduleName() string { return p.plainName(api.TokCon, false) }

// operator reads an operator: a name of one of the operators' classes, or one of the others in back quotes.
func (p *parser) operator(qualified bool, classes ...sort) string {
	quoted := p.accepts("`")
	for _, s := range classes {
		op := s.operator
		if quoted {
			op = s.plain
		}
		if p.isName(0, op, qualified) {
			name := p.plainName(op, qualified)
			p.require(!quoted || p.accepts("`"))
			return name
		}
	}
	p.fail()
	return ""
}

// anyOperator reads an operator of an expression.
func (p *parser) anyOperator() string { return p.operator(true, variables(), constructors()) }

// plainOperator reads an operator without a qualifier.
func (p *parser) plainOperator() string { return p.operator(false, variables(), constructors()) }

// conOperator reads a constructor between two operands.
func (p *parser) conOperator() string { return p.operator(false, constructors()) }

// varOperator reads a function between two operands.
func (p *parser) varOperator() string { return p.operator(false, variables()) }

// seesOperator reports whether an operator of an expression begins here.
func (p *parser) seesOperator() bool {
	return p.sees("`") || p.isName(0, api.TokOp, true) || p.isName(0, api.TokConOp, true)
}

// seesVarOperator reports whether a function between two operands begins here, and no constructor can.
func (p *parser) seesVarOperator() bool {
	return p.isName(0, api.TokOp, false) || p.sees("`") && p.isName(1, api.TokVar, false)
}

// seesConOperator reports whether a constructor between two operands begins here.
func (p *parser) seesConOperator() bool { return p.sees("`") || p.isName(0, api.TokConOp, false) }

// seesMinus reports whether a token is a minus sign.
func (p *parser) seesMinus(n int) bool { return p.isName(n, api.TokOp, false) && p.peek(n).Text == "-" }

// commas reads the name of a tuple constructor.
func (p *parser) commas() string {
	p.expect("(")
	parts := len(separated(p, ",", func() bool { return true }))
	p.expect(")")
	return tupleName(parts)
}

// tupleName returns the name of a tuple constructor, also for tuples that are too long.
func tupleName(parts int) string { return "(" + strings.Repeat(",", parts-1) + ")" }
