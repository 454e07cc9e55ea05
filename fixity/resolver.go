package fixity

import (
	"slices"

	"lazyc/api"
	"lazyc/syntax"
)

// resolver copies trees, and resolves the sequences in them: from the inside outwards, and what is written first before what follows.
type resolver struct {
	fixities
	fault api.Fault // the first one
}

func newResolver(table []api.Fixity) *resolver { return &resolver{fixities: mapOf(table)} }

// note notes a fault, if it is the first one.
func (r *resolver) note(fault api.Fault) {
	if r.fault == (api.Fault{}) {
		r.fault = fault
	}
}

// expr returns the resolved expression. The order of the parts is that of the text for every form.
func (r *resolver) expr(e api.Expr) api.Expr {
	source := e
	e.Pats = mapped(e.Pats, r.pat)
	e.Decls = mapped(e.Decls, r.decl)
	e.Kids = mapped(e.Kids, r.expr)
	e.Alts = mapped(e.Alts, r.alt)
	e.Stmts = mapped(e.Stmts, r.stmt)
	e.Fields = mapped(e.Fields, r.field)
	switch e.Op {
	case api.EParen:
		return e.Kids[0]
	case api.EInfix:
		return r.infix(e)
	case api.ELeft, api.ERight:
		r.section(source)
	}
	e.Names = slices.Clone(e.Names)
	e.Preds = mapped(e.Preds, copyPred)
	e.Types = mapped(e.Types, copyType)
	return e
}

// infix combines resolved operands.
func (r *resolver) infix(e api.Expr) api.Expr {
	result, fault := resolve(r.fixities, sequence[api.Expr]{
		operands: e.Kids,
		minus:    e.Neg,
		ops:      e.Names,
		combine: func(op int, left, right api.Expr) api.Expr {
			return apply(apply(operator(e.Names[op]), left), right)
		},
		negate: func(operand api.Expr) api.Expr {
			return api.Expr{Op: api.ENeg, Kids: []api.Expr{operand}}
		},
	})
	r.note(fault)
	return result
}

func apply(f, x api.Expr) api.Expr { return api.Expr{Op: api.EApp, Kids: []api.Expr{f, x}} }

// operator returns an operator as an expression.
func operator(name string) api.Expr {
	if con := (api.Expr{Op: api.ECon, Name: name}); syntax.CheckExpr(con) == api.OK {
		return con
	}
	return api.Expr{Op: api.EVar, Name: name}
}

// section checks that the operator of a section is the last one to be applied if the missing operand is added.
func (r *resolver) section(e api.Expr) {
	operand := e.Kids[0]
	if operand.Op != api.EInfix {
		return
	}
	const none = -1
	s := sequence[int]{
		operands: make([]int, len(operand.Kids)+1),
		combine:  func(op int, _, _ int) int { return op },
		negate:   func(int) int { return none },
	}
	last := 0
	if e.Op == api.ELeft {
		last = len(operand.Names)
		s.ops = slices.Concat(operand.Names, []string{e.Name})
		s.minus = slices.Concat(operand.Neg, []bool{false})
	} else {
		s.ops = slices.Concat([]string{e.Name}, operand.Names)
		s.minus = slices.Concat([]bool{false}, operand.Neg)
	}
	if applied, fault := resolve(r.fixities, s); fault != (api.Fault{}) || applied != last {
		r.note(mixed(e.Name))
	}
}

func (r *resolver) pat(p api.Pat) api.Pat {
	p.Kids = mapped(p.Kids, r.pat)
	switch p.Op {
	case api.PParen:
		return p.Kids[0]
	case api.PInfix:
		return r.infixPat(p)
	}
	p.Names = slices.Clone(p.Names)
	return p
}

// infixPat combines resolved operands.
func (r *resolver) infixPat(p api.Pat) api.Pat {
	result, fault := resolve(r.fixities, sequence[api.Pat]{
		operands: p.Kids,
		minus:    make([]bool, len(p.Kids)),
		ops:      p.Names,
		combine: func(op int, left, right api.Pat) api.Pat {
			return api.Pat{Op: api.PCon, Name: p.Names[op], Kids: []api.Pat{left, right}}
		},
	})
	r.note(fault)
	return result
}

func (r *resolver) alt(a api.Alt) api.Alt {
	return api.Alt{Pat: r.pat(a.Pat), Rhs: mapped(a.Rhs, r.rhs), Where: mapped(a.Where, r.decl)}
}

func (r *resolver) rhs(rhs api.Rhs) api.Rhs {
	return api.Rhs{Guard: mapped(rhs.Guard, r.expr), Body: r.expr(rhs.Body)}
}

func (r *resolver) stmt(s api.Stmt) api.Stmt {
	return api.Stmt{Op: s.Op, Pat: r.pat(s.Pat), Expr: r.expr(s.Expr), Decls: mapped(s.Decls, r.decl)}
}

func (r *resolver) field(f api.Field) api.Field {
	return api.Field{Name: f.Name, Expr: r.expr(f.Expr)}
}
