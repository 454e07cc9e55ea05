package scope

import (
	"slices"

	"lazyc/api"
	"lazyc/trees"
)

func (r *resolver) expr(e api.Expr) api.Expr {
	switch e.Op {
	case api.EVar, api.ECon:
		return api.Expr{Op: e.Op, Name: r.value(e.Name)}
	case api.ELeft, api.ERight:
		name := r.value(e.Name)
		return api.Expr{Op: e.Op, Name: name, Kids: trees.Map(e.Kids, r.expr)}
	case api.ELam:
		return r.lambda(e)
	case api.ELet:
		return r.let(e)
	case api.ECase:
		kids := trees.Map(e.Kids, r.expr)
		return api.Expr{Op: e.Op, Kids: kids, Alts: trees.Map(e.Alts, r.alt)}
	case api.EDo:
		return r.do(e)
	case api.EComp:
		return r.comprehension(e)
	case api.ESig:
		kids := trees.Map(e.Kids, r.expr)
		preds := trees.Map(e.Preds, r.pred)
		return api.Expr{Op: e.Op, Kids: kids, Preds: preds, Types: trees.Map(e.Types, r.typ)}
	case api.ERecord:
		return r.record(e)
	case api.EUpdate:
		return r.update(e)
	}
	return api.Expr{Op: e.Op, N: e.N, Text: e.Text, Kids: trees.Map(e.Kids, r.expr), Names: slices.Clone(e.Names), Neg: slices.Clone(e.Neg)}
}

func (r *resolver) lambda(e api.Expr) api.Expr {
	vars := bindersOf(e.Pats)
	r.enter(vars)
	defer r.leave(vars)
	pats := trees.Map(e.Pats, r.pat)
	return api.Expr{Op: e.Op, Pats: pats, Kids: trees.Map(e.Kids, r.expr)}
}

func (r *resolver) let(e api.Expr) api.Expr {
	vars := variables(e.Decls)
	r.enter(vars)
	defer r.leave(vars)
	decls := r.block(e.Decls)
	return api.Expr{Op: e.Op, Decls: decls, Kids: trees.Map(e.Kids, r.expr)}
}

func (r *resolver) alt(a api.Alt) api.Alt {
	vars := bindersOf([]api.Pat{a.Pat})
	r.enter(vars)
	defer r.leave(vars)
	pat := r.pat(a.Pat)
	rhs, where := r.rhs(a.Rhs, a.Where)
	return api.Alt{Pat: pat, Rhs: rhs, Where: where}
}

// rhs resolves right-hand sides, and then their where part, in the scope of that.
func (r *resolver) rhs(list []api.Rhs, where []api.Decl) ([]api.Rhs, []api.Decl) {
	vars := variables(where)
	r.enter(vars)
	defer r.leave(vars)
	resolved := trees.Map(list, func(rhs api.Rhs) api.Rhs {
		guard := trees.Map(rhs.Guard, r.expr)
		return api.Rhs{Guard: guard, Body: r.expr(rhs.Body)}
	})
	return resolved, r.block(where)
}
