package desugar

import (
	"lazyc/api"
	"lazyc/kernels"
	"lazyc/trees"
)

// statement is a form of the statements of do expressions and list comprehensions.
type statement interface {
	// step translates the statement of a do expression with the operators >>= and >>; rest translates the statements after it.
	step(t *translator, operators []string, rest func() api.Kernel) api.Kernel
	// qualify translates the statement of a list comprehension, whose elements stand before those of tail; rest translates the statements after it for a tail.
	qualify(t *translator, tail api.Kernel, rest func(tail api.Kernel) api.Kernel) api.Kernel
}

func statementOf(s *api.Stmt) statement {
	switch s.Op {
	case api.StmtGen:
		return generator{s}
	case api.StmtLet:
		return local{s.Decls}
	}
	return plain{s}
}

// do translates a do expression.
func (t *translator) do(e *api.Expr) api.Kernel {
	if !hasOperators(e) {
		return t.wrong(api.ErrArg, "")
	}
	return t.steps(e.Names, e.Stmts)
}

// hasOperators reports whether a do expression has the operators that its statements need.
func hasOperators(e *api.Expr) bool {
	has := func(i int) bool { return i < len(e.Names) && e.Names[i] != "" }
	for i := range len(e.Stmts) - 1 {
		switch e.Stmts[i].Op {
		case api.StmtGen:
			if !has(0) {
				return false
			}
		case api.StmtExp:
			if !has(1) {
				return false
			}
		}
	}
	return true
}

// steps translates the statements of a do expression, the last of which is an expression.
func (t *translator) steps(operators []string, stmts []api.Stmt) api.Kernel {
	if len(stmts) == 1 {
		return t.expr(&stmts[0].Expr)
	}
	return statementOf(&stmts[0]).step(t, operators, func() api.Kernel { return t.steps(operators, stmts[1:]) })
}

// qualifiers translates a list comprehension: a list of results for its statements, followed by a tail.
func (t *translator) qualifiers(result *api.Expr, stmts []api.Stmt, tail api.Kernel) api.Kernel {
	if len(stmts) == 0 {
		return cons(t.expr(result), tail)
	}
	return statementOf(&stmts[0]).qualify(t, tail, func(tail api.Kernel) api.Kernel { return t.qualifiers(result, stmts[1:], tail) })
}

// generator is pat <- expr.
type generator struct {
	stmt *api.Stmt
}

func (g generator) step(t *translator, operators []string, rest func() api.Kernel) api.Kernel {
	pats := []api.Pat{g.stmt.Pat}
	params, ok := parameters(pats)
	if !ok {
		params = t.fresh("v", 1)
	}
	first := t.expr(&g.stmt.Expr)
	body := rest()
	if !ok {
		body = t.compile(params, []api.Row{{Pats: pats, Body: body}}, kernels.NoMatch())
	}
	return kernels.Apply(name(operators[0]), first, kernels.Lambda(params, body))
}

func (g generator) qualify(t *translator, tail api.Kernel, rest func(api.Kernel) api.Kernel) api.Kernel {
	loop, v, x, xs := t.supply.Fresh("go"), t.supply.Fresh("v"), t.supply.Fresh("x"), t.supply.Fresh("xs")
	next := func() api.Kernel { return kernels.Apply(kernels.Var(loop), kernels.Var(xs)) }
	body := rest(next())
	if g.stmt.Pat.Op == api.PVar {
		x = g.stmt.Pat.Name
	} else {
		row := api.Row{Pats: []api.Pat{g.stmt.Pat}, Body: body}
		body = t.compile([]string{x}, []api.Row{row}, next())
	}
	examined := kernels.Case(kernels.Var(v), kernels.Alt("[]", nil, tail), kernels.Alt(":", []string{x, xs}, body))
	bind := api.KBind{Name: loop, Body: kernels.Lambda([]string{v}, examined)}
	return kernels.Let([]api.KBind{bind}, kernels.Apply(kernels.Var(loop), t.expr(&g.stmt.Expr)))
}

// local is let decls.
type local struct {
	decls []api.Decl
}

func (l local) step(t *translator, _ []string, rest func() api.Kernel) api.Kernel {
	binds := t.block(l.decls)
	return kernels.Let(binds, rest())
}

func (l local) qualify(t *translator, tail api.Kernel, rest func(api.Kernel) api.Kernel) api.Kernel {
	binds := t.block(l.decls)
	return kernels.Let(binds, rest(tail))
}

// plain is an expression, or the guard of a comprehension.
type plain struct {
	stmt *api.Stmt
}

func (p plain) step(t *translator, operators []string, rest func() api.Kernel) api.Kernel {
	first := t.expr(&p.stmt.Expr)
	return kernels.Apply(name(operators[1]), first, rest())
}

func (p plain) qualify(t *translator, tail api.Kernel, rest func(api.Kernel) api.Kernel) api.Kernel {
	guard := t.expr(&p.stmt.Expr)
	return kernels.If(guard, rest(trees.Kernel(tail)), tail)
}
