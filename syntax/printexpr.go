package syntax

import (
	"strconv"

	"lazyc/api"
	"lazyc/lexer"
)

// The levels of expressions. A place has the level of the parts that need no parentheses there.
const (
	anyLevel     = iota // also a negation or a signature
	infixLevel          // also a sequence of operators
	operandLevel        // also what begins with a word, or with a lambda
	funLevel            // also an application
	argLevel            // what stands by itself
	noLevel             // nothing
)

func exprLevel(e *api.Expr) int {
	switch e.Op {
	case api.ENeg, api.ESig:
		return anyLevel
	case api.EInfix:
		return infixLevel
	case api.ELam, api.ELet, api.EIf, api.ECase, api.EDo:
		return operandLevel
	case api.EApp:
		return funLevel
	}
	return argLevel
}

// isOpen reports whether the expression would extend over what follows.
func isOpen(e *api.Expr) bool {
	switch e.Op {
	case api.ELam, api.ELet, api.EIf:
		return true
	case api.EInfix:
		return isOpen(&e.Kids[len(e.Kids)-1])
	}
	return false
}

// exprAt writes an expression at a place of a level.
func (p *printer) exprAt(level int, e *api.Expr) {
	if exprLevel(e) < level {
		p.inParens(func() { p.expr(e) })
		return
	}
	p.expr(e)
}

// closedAt is exprAt for a place behind which the text of the expression must end.
func (p *printer) closedAt(level int, e *api.Expr) {
	if isOpen(e) {
		level = noLevel
	}
	p.exprAt(level, e)
}

func (p *printer) expr(e *api.Expr) {
	switch e.Op {
	case api.EVar, api.ECon:
		p.name(e.Name)
	case api.EInt:
		p.units(strconv.Itoa(e.N))
	case api.EChar:
		p.units(lexer.QuoteChar(e.N))
	case api.EString:
		p.units(lexer.Quote(e.Text))
	case api.EApp:
		p.exprAt(funLevel, &e.Kids[0])
		p.exprAt(argLevel, &e.Kids[1])
	case api.EInfix:
		p.infix(e)
	case api.ENeg:
		p.units("-")
		p.exprAt(operandLevel, &e.Kids[0])
	case api.ELam, api.ELet, api.EIf, api.ECase, api.EDo:
		p.wordExpr(e)
	case api.ESig:
		p.closedAt(infixLevel, &e.Kids[0])
		p.units("::")
		p.context(e.Preds)
		p.typ(&e.Types[0])
	case api.ERecord:
		p.name(e.Name)
		p.fields(e.Fields)
	case api.EUpdate:
		p.updated(&e.Kids[0])
		p.fields(e.Fields)
	default:
		p.bracketExpr(e)
	}
}

func (p *printer) infix(e *api.Expr) {
	last := len(e.Kids) - 1
	for i := range e.Kids {
		if i > 0 {
			p.symbol(e.Names[i-1])
		}
		if e.Neg[i] {
			p.units("-")
		}
		if i < last {
			p.closedAt(operandLevel, &e.Kids[i])
		} else {
			p.exprAt(operandLevel, &e.Kids[i])
		}
	}
}

// wordExpr writes an expression that begins with a word, or with a lambda.
func (p *printer) wordExpr(e *api.Expr) {
	switch e.Op {
	case api.ELam:
		p.units("\\")
		p.params(e.Pats)
		p.units("->")
		p.expr(&e.Kids[0])
	case api.ELet:
		p.units("let")
		block(p, e.Decls, p.decl)
		p.units("in")
		p.expr(&e.Kids[0])
	case api.EIf:
		p.units("if")
		p.expr(&e.Kids[0])
		p.units("then")
		p.expr(&e.Kids[1])
		p.units("else")
		p.expr(&e.Kids[2])
	case api.ECase:
		p.units("case")
		p.expr(&e.Kids[0])
		p.units("of")
		block(p, e.Alts, p.alt)
	case api.EDo:
		p.units("do")
		block(p, e.Stmts, p.stmt)
	}
}

// bracketExpr writes an expression in brackets of its own.
func (p *printer) bracketExpr(e *api.Expr) {
	switch e.Op {
	case api.ETuple, api.EParen:
		enclosed(p, "(", e.Kids, ")", p.expr)
	case api.EList:
		enclosed(p, "[", e.Kids, "]", p.expr)
	case api.EComp:
		p.units("[")
		p.expr(&e.Kids[0])
		enclosed(p, "|", e.Stmts, "]", p.stmt)
	case api.ERange:
		p.units("[")
		separated(p, e.Kids, "..", p.expr)
		p.units("]")
	case api.ELeft:
		p.inParens(func() {
			p.closedAt(infixLevel, &e.Kids[0])
			p.symbol(e.Name)
		})
	case api.ERight:
		p.inParens(func() {
			p.symbol(e.Name)
			p.exprAt(infixLevel, &e.Kids[0])
		})
	}
}

// updated writes the operand of a record update.
func (p *printer) updated(e *api.Expr) {
	if e.Op == api.ECon {
		// Without parentheses this would be a record construction.
		p.inParens(func() { p.expr(e) })
		return
	}
	p.exprAt(argLevel, e)
}

func (p *printer) fields(list []api.Field) {
	enclosed(p, "{", list, "}", func(f *api.Field) {
		p.name(f.Name)
		p.units("=")
		p.expr(&f.Expr)
	})
}

func (p *printer) alt(a *api.Alt) {
	p.pat(&a.Pat)
	p.rhs("->", a.Rhs, a.Where)
}

func (p *printer) stmt(s *api.Stmt) {
	switch s.Op {
	case api.StmtGen:
		p.pat(&s.Pat)
		p.units("<-")
		p.expr(&s.Expr)
	case api.StmtLet:
		p.units("let")
		block(p, s.Decls, p.decl)
	case api.StmtExp:
		p.expr(&s.Expr)
	}
}
