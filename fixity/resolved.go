package fixity

import (
	"slices"

	"lazyc/api"
)

// Resolved reports whether an expression has no unresolved operators and no parentheses.
func Resolved(e api.Expr) bool {
	return e.Op != api.EInfix && e.Op != api.EParen &&
		each(e.Kids, Resolved) && each(e.Pats, isResolvedPat) && each(e.Alts, isResolvedAlt) && each(e.Decls, isResolvedDecl) &&
		each(e.Stmts, isResolvedStmt) && each(e.Fields, func(f api.Field) bool { return Resolved(f.Expr) })
}

func isResolvedPat(p api.Pat) bool {
	return p.Op != api.PInfix && p.Op != api.PParen && each(p.Kids, isResolvedPat)
}

func isResolvedAlt(a api.Alt) bool {
	return isResolvedPat(a.Pat) && each(a.Rhs, isResolvedRhs) && each(a.Where, isResolvedDecl)
}

func isResolvedRhs(r api.Rhs) bool { return each(r.Guard, Resolved) && Resolved(r.Body) }

func isResolvedStmt(s api.Stmt) bool {
	return isResolvedPat(s.Pat) && Resolved(s.Expr) && each(s.Decls, isResolvedDecl)
}

func isResolvedClause(c api.Clause) bool {
	return each(c.Pats, isResolvedPat) && each(c.Rhs, isResolvedRhs) && each(c.Where, isResolvedDecl)
}

func isResolvedDecl(d api.Decl) bool {
	return each(d.Decls, isResolvedDecl) && each(d.Clauses, isResolvedClause) && isResolvedPat(d.Pat) &&
		each(d.Rhs, isResolvedRhs) && each(d.Where, isResolvedDecl)
}

// each reports whether all elements of a list are of a sort.
func each[T any](list []T, is func(T) bool) bool {
	return !slices.ContainsFunc(list, func(element T) bool { return !is(element) })
}
