package desugar

import (
	"lazyc/api"
	"lazyc/base"
	"lazyc/kernels"
	"lazyc/shapes"
	"lazyc/trees"
)

// expr translates an expression.
func (t *translator) expr(e *api.Expr) api.Kernel { return t.bounded(t.form(e)) }

// form translates an expression of any form.
func (t *translator) form(e *api.Expr) api.Kernel {
	switch e.Op {
	case api.EVar:
		return name(e.Name)
	case api.ECon:
		return t.constructor(e.Name)
	case api.EInt:
		return kernels.Int(e.N)
	case api.EChar:
		return kernels.Char(e.N)
	case api.EString:
		return list(trees.Map([]byte(e.Text), func(c byte) api.Kernel { return kernels.Char(int(c)) }))
	case api.EList:
		return list(t.exprs(e.Kids))
	case api.ETuple:
		return kernels.Apply(kernels.Con(base.Tuple(len(e.Kids))), t.exprs(e.Kids)...)
	case api.EApp:
		parts := t.exprs(e.Kids)
		return kernels.Apply(parts[0], parts[1])
	case api.ENeg:
		return kernels.Apply(kernels.Var("intNeg"), t.exprs(e.Kids)...)
	case api.EIf:
		parts := t.exprs(e.Kids)
		return kernels.If(parts[0], parts[1], parts[2])
	case api.ELeft:
		return kernels.Apply(name(e.Name), t.exprs(e.Kids)...)
	case api.ERight:
		v := t.supply.Fresh("v")
		return kernels.Lambda([]string{v}, kernels.Apply(name(e.Name), kernels.Var(v), t.expr(&e.Kids[0])))
	case api.ESig:
		return api.Kernel{Op: api.KSig, Kids: t.exprs(e.Kids), Sigs: []api.Scheme{schemeOf(e.Preds, e.Types[0])}}
	}
	return t.scoped(e)
}

// scoped translates an expression that binds variables, or has labels.
func (t *translator) scoped(e *api.Expr) api.Kernel {
	switch e.Op {
	case api.ELam:
		return t.lambda(e)
	case api.ELet:
		binds := t.block(e.Decls)
		return kernels.Let(binds, t.expr(&e.Kids[0]))
	case api.ECase:
		v := t.fresh("v", 1)
		rows := trees.Map(e.Alts, func(a api.Alt) api.Row { return t.row([]api.Pat{a.Pat}, a.Rhs, a.Where) })
		function := kernels.Lambda(v, t.compile(v, rows, kernels.NoMatch()))
		return kernels.Apply(function, t.expr(&e.Kids[0]))
	case api.EDo:
		return t.do(e)
	case api.EComp:
		return t.qualifiers(&e.Kids[0], e.Stmts, kernels.Con("[]"))
	case api.ERange:
		return t.sequence(e)
	case api.ERecord:
		return t.record(e)
	}
	return t.update(e)
}

func (t *translator) exprs(list []api.Expr) []api.Kernel {
	return trees.Map(list, func(e api.Expr) api.Kernel { return t.expr(&e) })
}

// name returns a variable or a constructor.
func name(name string) api.Kernel {
	if shapes.Of(name).IsConstructor() {
		return kernels.Con(name)
	}
	return kernels.Var(name)
}

func (t *translator) constructor(con string) api.Kernel {
	if _, ok := t.table.Find(con); !ok {
		return t.wrong(api.ErrScope, con)
	}
	return name(con)
}

// cons returns a list with its first element and the others.
func cons(first, rest api.Kernel) api.Kernel { return kernels.Apply(kernels.Con(":"), first, rest) }

// list returns the list of elements.
func list(elements []api.Kernel) api.Kernel {
	all := kernels.Con("[]")
	for i := len(elements) - 1; i >= 0; i-- {
		all = cons(elements[i], all)
	}
	return all
}

func (t *translator) lambda(e *api.Expr) api.Kernel {
	if params, ok := parameters(e.Pats); ok {
		return kernels.Lambda(params, t.expr(&e.Kids[0]))
	}
	vars := t.fresh("v", len(e.Pats))
	row := api.Row{Pats: e.Pats, Body: t.expr(&e.Kids[0])}
	return kernels.Lambda(vars, t.compile(vars, []api.Row{row}, kernels.NoMatch()))
}

// parameters returns the variables of patterns; ok reports whether all of these are variables.
func parameters(pats []api.Pat) (params []string, ok bool) {
	for i := range pats {
		if pats[i].Op != api.PVar {
			return nil, false
		}
		params = append(params, pats[i].Name)
	}
	return params, true
}

// sequence translates an arithmetic sequence.
func (t *translator) sequence(e *api.Expr) api.Kernel {
	hi, next, n := t.supply.Fresh("hi"), t.supply.Fresh("go"), t.supply.Fresh("n")
	compare := func(primitive string) api.Kernel {
		return kernels.Apply(kernels.Var(primitive), kernels.Var(n), kernels.Var(hi))
	}
	step := kernels.Apply(kernels.Var(next), kernels.Apply(kernels.Var("intAdd"), kernels.Var(n), kernels.Int(1)))
	rest := kernels.If(compare("intEq"), kernels.Con("[]"), step)
	body := kernels.If(compare("intLe"), cons(kernels.Var(n), rest), kernels.Con("[]"))
	loop := api.KBind{Name: next, Body: kernels.Lambda([]string{n}, body)}
	first := t.expr(&e.Kids[0])
	count := kernels.Let([]api.KBind{loop}, kernels.Apply(kernels.Var(next), first))
	return kernels.Apply(kernels.Lambda([]string{hi}, count), t.expr(&e.Kids[1]))
}
