package scope

import (
	"lazyc/api"
	"lazyc/trees"
)

// do resolves a do expression. The operators are those in scope around it, whatever its statements bind.
func (r *resolver) do(e api.Expr) api.Expr {
	operators := []string{"", ""}
	generates, continues := operatorsOf(e.Stmts)
	if generates {
		operators[0] = r.value(">>=")
	}
	if continues {
		operators[1] = r.value(">>")
	}
	stmts, _ := r.stmts(e.Stmts, nil)
	return api.Expr{Op: e.Op, Names: operators, Stmts: stmts}
}

// operatorsOf tells whether statements are joined by >>= and by >>.
func operatorsOf(list []api.Stmt) (generates, continues bool) {
	for i, s := range list {
		generates = generates || s.Op == api.StmtGen
		continues = continues || s.Op == api.StmtExp && i < len(list)-1
	}
	return generates, continues
}

func (r *resolver) comprehension(e api.Expr) api.Expr {
	stmts, kids := r.stmts(e.Stmts, e.Kids)
	return api.Expr{Op: e.Op, Stmts: stmts, Kids: kids}
}

// stmts resolves statements, each in the scopes of those before it, and then the results in the scopes of all of them.
func (r *resolver) stmts(list []api.Stmt, results []api.Expr) ([]api.Stmt, []api.Expr) {
	var resolved []api.Stmt
	for _, s := range list {
		stmt := api.Stmt{Op: s.Op}
		switch s.Op {
		case api.StmtGen:
			stmt.Expr = r.expr(s.Expr)
			vars := bindersOf([]api.Pat{s.Pat})
			r.enter(vars)
			defer r.leave(vars)
			stmt.Pat = r.pat(s.Pat)
		case api.StmtLet:
			vars := variables(s.Decls)
			r.enter(vars)
			defer r.leave(vars)
			stmt.Decls = r.block(s.Decls)
		default:
			stmt.Expr = r.expr(s.Expr)
		}
		resolved = append(resolved, stmt)
	}
	return resolved, trees.Map(results, r.expr)
}
