package syntax

import (
	"slices"

	"lazyc/api"
	"lazyc/types"
)

// Same reports whether two modules are equal.
func Same(a, b api.Module) bool {
	return a.Name == b.Name && a.All == b.All && equal(a.Exports, b.Exports, sameExport) &&
		equal(a.Imports, b.Imports, sameImport) && equal(a.Decls, b.Decls, sameDecl)
}

// SameExpr reports whether two expressions are equal.
func SameExpr(a, b api.Expr) bool { return sameExpr(&a, &b) }

// SamePat reports whether two patterns are equal.
func SamePat(a, b api.Pat) bool { return samePat(&a, &b) }

// equal reports whether two lists have the same length, and equal elements.
func equal[T any](a, b []T, same func(a, b *T) bool) bool {
	if len(a) != len(b) {
		return false
	}
	for i := range a {
		if !same(&a[i], &b[i]) {
			return false
		}
	}
	return true
}

func sameExport(a, b *api.Export) bool {
	return a.Name == b.Name && a.With == b.With && slices.Equal(a.Subs, b.Subs)
}

func sameImport(a, b *api.Import) bool {
	return a.Module == b.Module && a.Qualified == b.Qualified && a.As == b.As && a.All == b.All && a.Hiding == b.Hiding &&
		equal(a.Names, b.Names, sameExport)
}

func sameDecl(a, b *api.Decl) bool {
	return a.Op == b.Op && a.Name == b.Name && slices.Equal(a.Names, b.Names) && a.N == b.N && a.Assoc == b.Assoc &&
		equal(a.Cons, b.Cons, sameConDecl) && slices.Equal(a.Derive, b.Derive) && equal(a.Preds, b.Preds, samePred) &&
		a.Class == b.Class && sameType(&a.Type, &b.Type) && equal(a.Decls, b.Decls, sameDecl) &&
		equal(a.Clauses, b.Clauses, sameClause) && samePat(&a.Pat, &b.Pat) && equal(a.Rhs, b.Rhs, sameRhs) &&
		equal(a.Where, b.Where, sameDecl)
}

func sameConDecl(a, b *api.ConDecl) bool {
	return a.Name == b.Name && equal(a.Fields, b.Fields, sameType) && slices.Equal(a.Labels, b.Labels)
}

func sameClause(a, b *api.Clause) bool {
	return equal(a.Pats, b.Pats, samePat) && equal(a.Rhs, b.Rhs, sameRhs) && equal(a.Where, b.Where, sameDecl)
}

func sameAlt(a, b *api.Alt) bool {
	return samePat(&a.Pat, &b.Pat) && equal(a.Rhs, b.Rhs, sameRhs) && equal(a.Where, b.Where, sameDecl)
}

func sameRhs(a, b *api.Rhs) bool {
	return equal(a.Guard, b.Guard, sameExpr) && sameExpr(&a.Body, &b.Body)
}

func sameStmt(a, b *api.Stmt) bool {
	return a.Op == b.Op && samePat(&a.Pat, &b.Pat) && sameExpr(&a.Expr, &b.Expr) && equal(a.Decls, b.Decls, sameDecl)
}

func sameExpr(a, b *api.Expr) bool {
	return a.Op == b.Op && a.Name == b.Name && a.N == b.N && a.Text == b.Text && equal(a.Kids, b.Kids, sameExpr) &&
		slices.Equal(a.Names, b.Names) && slices.Equal(a.Neg, b.Neg) && equal(a.Pats, b.Pats, samePat) &&
		equal(a.Alts, b.Alts, sameAlt) && equal(a.Decls, b.Decls, sameDecl) && equal(a.Stmts, b.Stmts, sameStmt) &&
		equal(a.Fields, b.Fields, sameField) && equal(a.Preds, b.Preds, samePred) && equal(a.Types, b.Types, sameType)
}

func sameField(a, b *api.Field) bool { return a.Name == b.Name && sameExpr(&a.Expr, &b.Expr) }

func samePat(a, b *api.Pat) bool {
	return a.Op == b.Op && a.Name == b.Name && a.N == b.N && a.Text == b.Text &&
		equal(a.Kids, b.Kids, samePat) && slices.Equal(a.Names, b.Names)
}

func samePred(a, b *api.Pred) bool { return a.Class == b.Class && sameType(&a.Type, &b.Type) }

// sameType compares all fields, and not only up to the names of quantified variables.
func sameType(a, b *api.Type) bool {
	return a.Op == b.Op && a.Name == b.Name && types.SameKind(a.Bound, b.Bound) && equal(a.Kids, b.Kids, sameType)
}
