package syntax

import (
	"slices"

	"lazyc/api"
	"lazyc/trees"
)

// Same reports whether two modules are equal.
func Same(a, b api.Module) bool {
	return a.Name == b.Name && a.All == b.All && trees.Equal(a.Exports, b.Exports, sameExport) &&
		trees.Equal(a.Imports, b.Imports, sameImport) && trees.Equal(a.Decls, b.Decls, sameDecl)
}

// SameExpr reports whether two expressions are equal.
func SameExpr(a, b api.Expr) bool { return sameExpr(&a, &b) }

// SamePat reports whether two patterns are equal.
func SamePat(a, b api.Pat) bool { return samePat(&a, &b) }

func sameExport(a, b *api.Export) bool {
	return a.Name == b.Name && a.With == b.With && slices.Equal(a.Subs, b.Subs)
}

func sameImport(a, b *api.Import) bool {
	return a.Module == b.Module && a.Qualified == b.Qualified && a.As == b.As && a.All == b.All && a.Hiding == b.Hiding &&
		trees.Equal(a.Names, b.Names, sameExport)
}

func sameDecl(a, b *api.Decl) bool {
	return a.Op == b.Op && a.Name == b.Name && slices.Equal(a.Names, b.Names) && a.N == b.N && a.Assoc == b.Assoc &&
		trees.Equal(a.Cons, b.Cons, sameConDecl) && slices.Equal(a.Derive, b.Derive) && trees.Equal(a.Preds, b.Preds, trees.SamePred) &&
		a.Class == b.Class && trees.SameType(&a.Type, &b.Type) && trees.Equal(a.Decls, b.Decls, sameDecl) &&
		trees.Equal(a.Clauses, b.Clauses, sameClause) && samePat(&a.Pat, &b.Pat) && trees.Equal(a.Rhs, b.Rhs, sameRhs) &&
		trees.Equal(a.Where, b.Where, sameDecl)
}

func sameConDecl(a, b *api.ConDecl) bool {
	return a.Name == b.Name && trees.Equal(a.Fields, b.Fields, trees.SameType) && slices.Equal(a.Labels, b.Labels)
}

func sameClause(a, b *api.Clause) bool {
	return trees.Equal(a.Pats, b.Pats, samePat) && trees.Equal(a.Rhs, b.Rhs, sameRhs) && trees.Equal(a.Where, b.Where, sameDecl)
}

func sameAlt(a, b *api.Alt) bool {
	return samePat(&a.Pat, &b.Pat) && trees.Equal(a.Rhs, b.Rhs, sameRhs) && trees.Equal(a.Where, b.Where, sameDecl)
}

func sameRhs(a, b *api.Rhs) bool {
	return trees.Equal(a.Guard, b.Guard, sameExpr) && sameExpr(&a.Body, &b.Body)
}

func sameStmt(a, b *api.Stmt) bool {
	return a.Op == b.Op && samePat(&a.Pat, &b.Pat) && sameExpr(&a.Expr, &b.Expr) && trees.Equal(a.Decls, b.Decls, sameDecl)
}

func sameExpr(a, b *api.Expr) bool {
	return a.Op == b.Op && a.Name == b.Name && a.N == b.N && a.Text == b.Text && trees.Equal(a.Kids, b.Kids, sameExpr) &&
		slices.Equal(a.Names, b.Names) && slices.Equal(a.Neg, b.Neg) && trees.Equal(a.Pats, b.Pats, samePat) &&
		trees.Equal(a.Alts, b.Alts, sameAlt) && trees.Equal(a.Decls, b.Decls, sameDecl) && trees.Equal(a.Stmts, b.Stmts, sameStmt) &&
		trees.Equal(a.Fields, b.Fields, sameField) && trees.Equal(a.Preds, b.Preds, trees.SamePred) && trees.Equal(a.Types, b.Types, trees.SameType)
}

func sameField(a, b *api.Field) bool { return a.Name == b.Name && sameExpr(&a.Expr, &b.Expr) }

func samePat(a, b *api.Pat) bool {
	return a.Op == b.Op && a.Name == b.Name && a.N == b.N && a.Text == b.Text &&
		trees.Equal(a.Kids, b.Kids, samePat) && slices.Equal(a.Names, b.Names)
}
