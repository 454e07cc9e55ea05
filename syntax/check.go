package syntax

import (
	"lazyc/api"
	"lazyc/types"
)

// isExpr reports whether the expression, with all its parts, is well formed.
func isExpr(e *api.Expr) bool {
	return exprForm(e.Op).permits(fieldsOfExpr(e), len(e.Kids)) && hasExprFields(e) &&
		each(e.Kids, isExpr) && each(e.Pats, isPat) && each(e.Alts, isAlt) && each(e.Decls, isLocal) &&
		each(e.Stmts, isStmt) && each(e.Fields, isField) && each(e.Preds, isPred) && each(e.Types, isType)
}

// hasExprFields reports whether the fields of an expression, apart from its parts, are as its form demands.
func hasExprFields(e *api.Expr) bool {
	switch e.Op {
	case api.EVar:
		return isVariable(e.Name)
	case api.ECon, api.ERecord:
		return isConstructor(e.Name)
	case api.EInt:
		return e.N >= 0
	case api.EChar:
		return isChar(e.N)
	case api.EInfix:
		return isInfix(e)
	case api.ELam:
		return len(e.Pats) > 0
	case api.ECase:
		return len(e.Alts) > 0
	case api.EDo:
		return isDo(e)
	case api.ETuple:
		return len(e.Kids) != 1
	case api.EComp:
		return len(e.Stmts) > 0
	case api.ELeft:
		return isSymbol(e.Name)
	case api.ERight:
		return isSymbol(e.Name) && e.Name != "-"
	case api.ESig:
		return len(e.Types) == 1
	case api.EUpdate:
		return len(e.Fields) > 0
	}
	return true
}

func isInfix(e *api.Expr) bool {
	n := len(e.Kids)
	return len(e.Names) == n-1 && eachName(e.Names, isSymbol) && len(e.Neg) == n && (n > 1 || e.Neg[0])
}

func isDo(e *api.Expr) bool {
	n := len(e.Stmts)
	isName := func(name string) bool { return name == "" || isVariable(name) }
	return n > 0 && e.Stmts[n-1].Op == api.StmtExp && (len(e.Names) == 0 || len(e.Names) == 2) && eachName(e.Names, isName)
}

func isChar(n int) bool { return n >= 0 && n <= api.MaxChar }

func isField(f *api.Field) bool { return isVariable(f.Name) && isExpr(&f.Expr) }

// isPat reports whether the pattern, with all its parts, is well formed.
func isPat(p *api.Pat) bool {
	return patForm(p.Op).permits(fieldsOfPat(p), len(p.Kids)) && hasPatFields(p) && each(p.Kids, isPat)
}

// hasPatFields reports whether the fields of a pattern, apart from its parts, are as its form demands.
func hasPatFields(p *api.Pat) bool {
	switch p.Op {
	case api.PVar, api.PAs:
		return isVariable(p.Name)
	case api.PInt:
		return p.N >= -api.MaxInt
	case api.PChar:
		return isChar(p.N)
	case api.PCon:
		return isConstructor(p.Name)
	case api.PTuple:
		return len(p.Kids) != 1
	case api.PRecord:
		return isConstructor(p.Name) && len(p.Names) == len(p.Kids) && eachName(p.Names, isVariable)
	case api.PInfix:
		return len(p.Names) == len(p.Kids)-1 && eachName(p.Names, isConstructor)
	}
	return true
}

func isAlt(a *api.Alt) bool { return isPat(&a.Pat) && isRhs(a.Rhs) && each(a.Where, isLocal) }

func isClause(c *api.Clause) bool {
	return each(c.Pats, isPat) && isRhs(c.Rhs) && each(c.Where, isLocal)
}

// isRhs reports whether right-hand sides are a single one without a guard, or have a guard each.
func isRhs(list []api.Rhs) bool {
	guards := 1
	if len(list) == 1 {
		guards = min(len(list[0].Guard), 1)
	}
	return len(list) > 0 && each(list, func(r *api.Rhs) bool {
		return len(r.Guard) == guards && each(r.Guard, isExpr) && isExpr(&r.Body)
	})
}

func isStmt(s *api.Stmt) bool {
	switch s.Op {
	case api.StmtGen:
		return isPat(&s.Pat) && isExpr(&s.Expr) && len(s.Decls) == 0
	case api.StmtLet:
		return isZeroPat(&s.Pat) && isZeroExpr(&s.Expr) && each(s.Decls, isLocal)
	case api.StmtExp:
		return isZeroPat(&s.Pat) && isExpr(&s.Expr) && len(s.Decls) == 0
	}
	return false
}

// isDecl reports whether the declaration, with all its parts, is well formed.
func isDecl(d *api.Decl) bool {
	return declForm(d.Op).permits(fieldsOfDecl(d), 0) && hasDeclFields(d) && each(d.Preds, isPred)
}

// hasDeclFields reports whether the fields of a declaration, apart from its context, are as its form demands.
func hasDeclFields(d *api.Decl) bool {
	switch d.Op {
	case api.DData:
		return isConstructor(d.Name) && eachName(d.Names, isParam) && each(d.Cons, isConDecl) && eachName(d.Derive, isConstructor)
	case api.DClass:
		return isConstructor(d.Name) && len(d.Names) == 1 && eachName(d.Names, isParam) && each(d.Decls, isMember)
	case api.DInst:
		return isConstructor(d.Class) && isType(&d.Type) && each(d.Decls, isMethod)
	case api.DSig:
		return len(d.Names) > 0 && eachName(d.Names, isVariable) && isType(&d.Type)
	case api.DFix:
		return isAssoc(d.Assoc) && d.N >= 0 && d.N <= 9 && len(d.Names) > 0 && eachName(d.Names, isSymbol)
	case api.DFun:
		return isVariable(d.Name) && areClauses(d.Clauses)
	}
	return d.Pat.Op != api.PVar && isPat(&d.Pat) && isRhs(d.Rhs) && each(d.Where, isLocal)
}

// isLocal reports whether the declaration is well formed, and possible in a let expression or a where part.
func isLocal(d *api.Decl) bool {
	return (d.Op == api.DSig || d.Op == api.DFun || d.Op == api.DPat) && isDecl(d)
}

// isMember is isLocal for a class.
func isMember(d *api.Decl) bool { return (d.Op == api.DSig || d.Op == api.DFun) && isDecl(d) }

// isMethod is isLocal for an instance.
func isMethod(d *api.Decl) bool { return d.Op == api.DFun && isDecl(d) }

func isConDecl(c *api.ConDecl) bool {
	return isConstructor(c.Name) && each(c.Fields, isType) &&
		(len(c.Labels) == 0 || len(c.Labels) == len(c.Fields)) && eachName(c.Labels, isVariable)
}

func isAssoc(a api.Assoc) bool {
	return a == api.AssocNone || a == api.AssocLeft || a == api.AssocRight
}

// areClauses reports whether the clauses can be those of a function, or the only one of a variable.
func areClauses(list []api.Clause) bool {
	if len(list) == 0 {
		return false
	}
	params := len(list[0].Pats)
	return (params > 0 || len(list) == 1) &&
		each(list, func(c *api.Clause) bool { return len(c.Pats) == params && isClause(c) })
}

// isType reports whether the type is well formed, within the limits, and without quantifications.
func isType(t *api.Type) bool { return types.Check(*t) == api.OK && !hasForall(t) }

func hasForall(t *api.Type) bool {
	return t.Op == api.TForall || !each(t.Kids, func(kid *api.Type) bool { return !hasForall(kid) })
}

func isPred(p *api.Pred) bool {
	return isConstructor(p.Class) && p.Type.Op == api.TVar && isType(&p.Type)
}

func isModule(m *api.Module) bool {
	return isModuleName(m.Name) && !(m.All && len(m.Exports) > 0) &&
		each(m.Exports, isExport) && each(m.Imports, isImport) && each(m.Decls, isDecl)
}

// isExport reports whether the element of an export or import list is well formed.
func isExport(e *api.Export) bool {
	switch {
	case isVariable(e.Name):
		return !e.With && len(e.Subs) == 0
	case isConstructor(e.Name):
		return !(e.With && len(e.Subs) > 0) &&
			eachName(e.Subs, func(name string) bool { return isVariable(name) || isConstructor(name) })
	}
	return false
}

func isImport(i *api.Import) bool {
	return isModuleName(i.Module) && isModuleName(i.As) && !(i.All && (i.Hiding || len(i.Names) > 0)) && each(i.Names, isExport)
}
