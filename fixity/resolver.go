package fixity

import (
	"slices"

	"lazyc/api"
	"lazyc/syntax"
	"lazyc/trees"
)

// resolver copies trees, and resolves the sequences in them: from the inside outwards, and what is written first before what follows.
type resolver struct {
	fixities
	fault api.Fault // the first one
}

func newResolver(table []api.Fixity) *resolver { return &resolver{fixities: mapOf(table)} }

// note notes a fault, if it is the first one.
func (r *resolver) note(fault api.Fault) {
	if r.fault == (api.Fault{}) {
		r.fault = fault
	}
}

// copier returns a copier that resolves what it copies.
func (r *resolver) copier() *trees.Copier { return &trees.Copier{OnExpr: r.expr, OnPat: r.pat} }

// expr returns an expression whose parts are resolved already.
func (r *resolver) expr(source, e api.Expr) api.Expr {
	switch e.Op {
	case api.EParen:
		return e.Kids[0]
	case api.EInfix:
		return r.infix(e)
	case api.ELeft, api.ERight:
		r.section(source)
	}
	return e
}

// infix combines resolved operands.
func (r *resolver) infix(e api.Expr) api.Expr {
	result, fault := resolve(r.fixities, sequence[api.Expr]{
		operands: e.Kids,
		minus:    e.Neg,
		ops:      e.Names,
		combine: func(op int, left, right api.Expr) api.Expr {
			return apply(apply(operator(e.Names[op]), left), right)
		},
		negate: func(operand api.Expr) api.Expr {
			return api.Expr{Op: api.ENeg, Kids: []api.Expr{operand}}
		},
	})
	r.note(fault)
	return result
}

func apply(f, x api.Expr) api.Expr { return api.Expr{Op: api.EApp, Kids: []api.Expr{f, x}} }

// operator returns an operator as an expression.
func operator(name string) api.Expr {
	if con := (api.Expr{Op: api.ECon, Name: name}); syntax.CheckExpr(con) == api.OK {
		return con
	}
	return api.Expr{Op: api.EVar, Name: name}
}

// section checks that the operator of a section is the last one to be applied if the missing operand is added.
func (r *resolver) section(e api.Expr) {
	operand := e.Kids[0]
	if operand.Op != api.EInfix {
		return
	}
	const none = -1
	s := sequence[int]{
		operands: make([]int, len(operand.Kids)+1),
		combine:  func(op int, _, _ int) int { return op },
		negate:   func(int) int { return none },
	}
	last := 0
	if e.Op == api.ELeft {
		last = len(operand.Names)
		s.ops = slices.Concat(operand.Names, []string{e.Name})
		s.minus = slices.Concat(operand.Neg, []bool{false})
	} else {
		s.ops = slices.Concat([]string{e.Name}, operand.Names)
		s.minus = slices.Concat([]bool{false}, operand.Neg)
	}
	if applied, fault := resolve(r.fixities, s); fault != (api.Fault{}) || applied != last {
		r.note(mixed(e.Name))
	}
}

// pat returns a pattern whose parts are resolved already.
func (r *resolver) pat(p api.Pat) api.Pat {
	switch p.Op {
	case api.PParen:
		return p.Kids[0]
	case api.PInfix:
		return r.infixPat(p)
	}
	return p
}

// infixPat combines resolved operands.
func (r *resolver) infixPat(p api.Pat) api.Pat {
	result, fault := resolve(r.fixities, sequence[api.Pat]{
		operands: p.Kids,
		minus:    make([]bool, len(p.Kids)),
		ops:      p.Names,
		combine: func(op int, left, right api.Pat) api.Pat {
			return api.Pat{Op: api.PCon, Name: p.Names[op], Kids: []api.Pat{left, right}}
		},
	})
	r.note(fault)
	return result
}
