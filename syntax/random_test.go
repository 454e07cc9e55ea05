package syntax

import (
	"math/rand"

	"lazyc/api"
)

// maker makes random well-formed trees, with names as a source has them, and types whose texts have a space between any two tokens.
type maker struct {
	*rand.Rand
}

func (r maker) pick(list string) string {
	all := words(list)
	return all[r.Intn(len(all))]
}

// some returns a number of elements made by one, at least the given number.
func some[T any](r maker, least int, one func() T) []T {
	var list []T
	for n := least + r.Intn(3); n > 0; n-- {
		list = append(list, one())
	}
	return list
}

func (r maker) variable() string    { return r.pick("x y z x + - M.x M.+") }
func (r maker) local() string       { return r.pick("x y z +") }
func (r maker) constructor() string { return r.pick("A B : :+ M.A M.:+") }
func (r maker) symbol() string      { return r.pick("x + - A : M.x M.+ M.:+") }

func (r maker) typ() api.Type {
	return ty([]string{"a", "M.T", "M.T a b", "a -> f b -> Int"}[r.Intn(4)])
}

func (r maker) preds() []api.Pred {
	return some(r, 0, func() api.Pred { return pred(r.constructor(), r.pick("a b")) })
}

func (r maker) pat(depth int) api.Pat {
	inner := func() api.Pat { return r.pat(depth - 1) }
	if depth == 0 || r.Intn(4) == 0 {
		return []api.Pat{pv(r.local()), wild(), pi(r.Intn(5) - 2), {Op: api.PChar, N: r.Intn(256)}, {Op: api.PString, Text: r.pick(`a "'; \`)}, pcon(r.constructor())}[r.Intn(6)]
	}
	switch r.Intn(8) {
	case 0:
		return pcon(r.constructor(), some(r, 0, inner)...)
	case 1:
		return pkids(api.PTuple, some(r, 2, inner)...)
	case 2:
		return pkids(api.PList, some(r, 0, inner)...)
	case 3:
		return as(r.local(), inner())
	case 4:
		return pkids(api.PLazy, inner())
	case 5:
		p := precord(r.constructor(), "", some(r, 0, inner)...)
		for range p.Kids {
			p.Names = append(p.Names, r.variable())
		}
		return p
	case 6:
		p := pinfix("", some(r, 2, inner)...)
		for range len(p.Kids) - 1 {
			p.Names = append(p.Names, r.constructor())
		}
		return p
	}
	return pkids(api.PParen, inner())
}

func (r maker) expr(depth int) api.Expr {
	inner := func() api.Expr { return r.expr(depth - 1) }
	if depth <= 0 || r.Intn(8) == 0 {
		return []api.Expr{ev(r.variable()), ev(r.variable()), ec(r.constructor()), ei(r.Intn(9)), {Op: api.EChar, N: r.Intn(256)}, {Op: api.EString, Text: r.pick(`a "'; \`)}}[r.Intn(6)]
	}
	switch op := api.EApp + api.ExprOp(r.Intn(18)); op {
	case api.EApp, api.ERange:
		return kids(op, inner(), inner())
	case api.ENeg, api.EParen:
		return kids(op, inner())
	case api.EIf:
		return kids(op, inner(), inner(), inner())
	case api.ETuple:
		return kids(op, some(r, 2, inner)...)
	case api.EList:
		return kids(op, some(r, 0, inner)...)
	case api.EInfix:
		return r.infix(inner)
	case api.ELam:
		return lam(inner(), some(r, 1, func() api.Pat { return r.pat(2) })...)
	case api.ELet:
		return let(inner(), r.locals(depth-1)...)
	case api.ECase:
		return caseOf(inner(), some(r, 1, func() api.Alt { return api.Alt{Pat: r.pat(2), Rhs: r.rhs(inner), Where: r.locals(depth - 2)} })...)
	case api.EDo:
		e := do(append(r.stmts(0, depth-1), exp(inner()))...)
		if r.Intn(2) == 0 {
			e.Names = []string{r.variable(), ""}
		}
		return e
	case api.EComp:
		return comp(inner(), r.stmts(1, depth-1)...)
	case api.ELeft:
		return section(op, r.symbol(), inner())
	case api.ERight:
		return section(op, r.pick("x + A : M.-"), inner())
	case api.ESig:
		return api.Expr{Op: op, Kids: []api.Expr{inner()}, Preds: r.preds(), Types: []api.Type{r.typ()}}
	case api.ERecord:
		return record(r.constructor(), r.fields(0, inner)...)
	}
	return update(inner(), r.fields(1, inner)...)
}

func (r maker) infix(inner func() api.Expr) api.Expr {
	e := kids(api.EInfix, some(r, 2, inner)...)
	for i := range e.Kids {
		e.Neg = append(e.Neg, r.Intn(3) == 0)
		if i > 0 {
			e.Names = append(e.Names, r.symbol())
		}
	}
	return e
}

func (r maker) fields(least int, inner func() api.Expr) []api.Field {
	return some(r, least, func() api.Field { return field(r.variable(), inner()) })
}

func (r maker) rhs(inner func() api.Expr) []api.Rhs {
	if r.Intn(2) == 0 {
		return is(inner())
	}
	return some(r, 1, func() api.Rhs { return guarded(inner(), inner()) })
}

func (r maker) stmts(least, depth int) []api.Stmt {
	return some(r, least, func() api.Stmt {
		switch r.Intn(3) {
		case 0:
			return gen(r.pat(2), r.expr(depth))
		case 1:
			return letStmt(r.locals(depth)...)
		}
		return exp(r.expr(depth))
	})
}

func (r maker) locals(depth int) []api.Decl {
	if depth < 0 {
		return nil
	}
	return some(r, 0, func() api.Decl {
		switch r.Intn(4) {
		case 0:
			return api.Decl{Op: api.DSig, Names: some(r, 1, r.local), Preds: r.preds(), Type: r.typ()}
		case 1:
			d := api.Decl{Op: api.DPat, Pat: pkids(api.PParen, r.pat(2)), Where: r.locals(depth - 2)}
			d.Rhs = r.rhs(func() api.Expr { return r.expr(depth - 1) })
			return d
		}
		return r.function(depth)
	})
}

func (r maker) function(depth int) api.Decl {
	one := func(params int) api.Clause {
		c := api.Clause{Rhs: r.rhs(func() api.Expr { return r.expr(depth - 1) }), Where: r.locals(depth - 2)}
		for range params {
			c.Pats = append(c.Pats, r.pat(2))
		}
		return c
	}
	params := r.Intn(3)
	d := fun(r.local(), one(params))
	for params > 0 && r.Intn(2) == 0 {
		d.Clauses = append(d.Clauses, one(params))
	}
	return d
}

func (r maker) decl() api.Decl {
	name := func() string { return r.constructor() }
	switch r.Intn(6) {
	case 0:
		d := data(r.constructor(), "", some(r, 0, func() api.ConDecl {
			c := api.ConDecl{Name: r.constructor(), Fields: some(r, 0, func() api.Type { return ty(r.pick("a b Int")) })}
			if r.Intn(2) == 0 {
				for range c.Fields {
					c.Labels = append(c.Labels, r.local())
				}
			}
			return c
		})...)
		d.Names, d.Derive = some(r, 0, func() string { return r.pick("a b") }), some(r, 0, name)
		return d
	case 1:
		return given(class(r.constructor(), "a", some(r, 0, func() api.Decl { return r.function(2) })...), r.preds()...)
	case 2:
		return given(inst(r.constructor(), r.pick("a Int"), some(r, 0, func() api.Decl { return r.function(2) })...), r.preds()...)
	case 3:
		return api.Decl{Op: api.DFix, Assoc: api.Assoc(r.Intn(3)), N: r.Intn(10), Names: some(r, 1, r.symbol)}
	}
	for {
		if list := r.locals(3); len(list) > 0 {
			return list[0]
		}
	}
}

func (r maker) exports() []api.Export {
	return some(r, 0, func() api.Export {
		switch r.Intn(3) {
		case 0:
			return api.Export{Name: r.variable()}
		case 1:
			return api.Export{Name: r.constructor(), With: true}
		}
		return api.Export{Name: r.constructor(), Subs: some(r, 0, func() string { return r.pick("x + A :+") })}
	})
}

func (r maker) module() api.Module {
	m := api.Module{Name: r.pick("M N"), All: r.Intn(2) == 0, Decls: some(r, 0, r.decl)}
	if !m.All {
		m.Exports = r.exports()
	}
	m.Imports = some(r, 0, func() api.Import {
		i := api.Import{Module: r.pick("M N"), As: r.pick("M N"), Qualified: r.Intn(2) == 0, All: r.Intn(2) == 0}
		if !i.All {
			i.Hiding, i.Names = r.Intn(2) == 0, r.exports()
		}
		return i
	})
	return m
}
