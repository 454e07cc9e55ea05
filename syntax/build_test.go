package syntax

import (
	"strings"

	"lazyc/api"
	"lazyc/types"
)

func ev(name string) api.Expr { return api.Expr{Op: api.EVar, Name: name} }
func ec(name string) api.Expr { return api.Expr{Op: api.ECon, Name: name} }
func ei(n int) api.Expr       { return api.Expr{Op: api.EInt, N: n} }

// kids returns an expression that has only Kids.
func kids(op api.ExprOp, list ...api.Expr) api.Expr { return api.Expr{Op: op, Kids: list} }

func app(f, x api.Expr) api.Expr { return kids(api.EApp, f, x) }
func neg(e api.Expr) api.Expr    { return kids(api.ENeg, e) }

// infix returns the sequence of operands that have no minus signs.
func infix(names string, list ...api.Expr) api.Expr {
	return api.Expr{Op: api.EInfix, Names: words(names), Neg: make([]bool, len(list)), Kids: list}
}

// negated returns a sequence with minus signs before the operands for which signs has one.
func negated(signs string, e api.Expr) api.Expr {
	e.Neg = nil
	for i := range signs {
		e.Neg = append(e.Neg, signs[i] == '-')
	}
	return e
}

func lam(body api.Expr, pats ...api.Pat) api.Expr {
	return api.Expr{Op: api.ELam, Pats: pats, Kids: []api.Expr{body}}
}

func let(body api.Expr, decls ...api.Decl) api.Expr {
	return api.Expr{Op: api.ELet, Decls: decls, Kids: []api.Expr{body}}
}

func caseOf(e api.Expr, alts ...api.Alt) api.Expr {
	return api.Expr{Op: api.ECase, Kids: []api.Expr{e}, Alts: alts}
}

func do(stmts ...api.Stmt) api.Expr { return api.Expr{Op: api.EDo, Stmts: stmts} }

func comp(e api.Expr, stmts ...api.Stmt) api.Expr {
	return api.Expr{Op: api.EComp, Kids: []api.Expr{e}, Stmts: stmts}
}

// section returns an ELeft or ERight.
func section(op api.ExprOp, name string, e api.Expr) api.Expr {
	return api.Expr{Op: op, Name: name, Kids: []api.Expr{e}}
}

func signed(e api.Expr, typ string, preds ...api.Pred) api.Expr {
	return api.Expr{Op: api.ESig, Kids: []api.Expr{e}, Preds: preds, Types: []api.Type{ty(typ)}}
}

func record(name string, fields ...api.Field) api.Expr {
	return api.Expr{Op: api.ERecord, Name: name, Fields: fields}
}

func update(e api.Expr, fields ...api.Field) api.Expr {
	return api.Expr{Op: api.EUpdate, Kids: []api.Expr{e}, Fields: fields}
}

func field(name string, e api.Expr) api.Field { return api.Field{Name: name, Expr: e} }

func pv(name string) api.Pat { return api.Pat{Op: api.PVar, Name: name} }
func pi(n int) api.Pat       { return api.Pat{Op: api.PInt, N: n} }

func wild() api.Pat { return api.Pat{Op: api.PWild} }

func pkids(op api.PatOp, list ...api.Pat) api.Pat { return api.Pat{Op: op, Kids: list} }

func pcon(name string, list ...api.Pat) api.Pat {
	return api.Pat{Op: api.PCon, Name: name, Kids: list}
}

func as(name string, p api.Pat) api.Pat {
	return api.Pat{Op: api.PAs, Name: name, Kids: []api.Pat{p}}
}

func pinfix(names string, list ...api.Pat) api.Pat {
	return api.Pat{Op: api.PInfix, Names: words(names), Kids: list}
}

func precord(name, labels string, list ...api.Pat) api.Pat {
	return api.Pat{Op: api.PRecord, Name: name, Names: words(labels), Kids: list}
}

// is returns the single right-hand side without a guard.
func is(e api.Expr) []api.Rhs { return []api.Rhs{{Body: e}} }

func guarded(guard, body api.Expr) api.Rhs { return api.Rhs{Guard: []api.Expr{guard}, Body: body} }

func alt(p api.Pat, e api.Expr, where ...api.Decl) api.Alt {
	return api.Alt{Pat: p, Rhs: is(e), Where: where}
}

func gen(p api.Pat, e api.Expr) api.Stmt { return api.Stmt{Op: api.StmtGen, Pat: p, Expr: e} }
func letStmt(decls ...api.Decl) api.Stmt { return api.Stmt{Op: api.StmtLet, Decls: decls} }
func exp(e api.Expr) api.Stmt            { return api.Stmt{Op: api.StmtExp, Expr: e} }

func clause(e api.Expr, pats ...api.Pat) api.Clause { return api.Clause{Pats: pats, Rhs: is(e)} }

func fun(name string, clauses ...api.Clause) api.Decl {
	return api.Decl{Op: api.DFun, Name: name, Clauses: clauses}
}

// value returns the declaration of a variable.
func value(name string, e api.Expr) api.Decl { return fun(name, clause(e)) }

func patDecl(p api.Pat, e api.Expr, where ...api.Decl) api.Decl {
	return api.Decl{Op: api.DPat, Pat: p, Rhs: is(e), Where: where}
}

func sig(names, typ string, preds ...api.Pred) api.Decl {
	return api.Decl{Op: api.DSig, Names: words(names), Type: ty(typ), Preds: preds}
}

func fix(assoc api.Assoc, prec int, names string) api.Decl {
	return api.Decl{Op: api.DFix, Assoc: assoc, N: prec, Names: words(names)}
}

func data(name, params string, cons ...api.ConDecl) api.Decl {
	return api.Decl{Op: api.DData, Name: name, Names: words(params), Cons: cons}
}

// con returns a constructor, with its fields separated by semicolons.
func con(name, fields string) api.ConDecl {
	c := api.ConDecl{Name: name}
	for text := range strings.SplitSeq(fields, "; ") {
		if text != "" {
			c.Fields = append(c.Fields, ty(text))
		}
	}
	return c
}

func labelled(labels string, c api.ConDecl) api.ConDecl {
	c.Labels = words(labels)
	return c
}

func class(name, param string, decls ...api.Decl) api.Decl {
	return api.Decl{Op: api.DClass, Name: name, Names: words(param), Decls: decls}
}

func inst(name, typ string, decls ...api.Decl) api.Decl {
	return api.Decl{Op: api.DInst, Class: name, Type: ty(typ), Decls: decls}
}

// given returns a declaration with a context.
func given(d api.Decl, preds ...api.Pred) api.Decl {
	d.Preds = preds
	return d
}

func pred(class, v string) api.Pred { return api.Pred{Class: class, Type: ty(v)} }

// main returns the module Main, which exports everything.
func main(decls ...api.Decl) api.Module { return api.Module{Name: "Main", All: true, Decls: decls} }

// ty returns the type with a text.
func ty(text string) api.Type {
	t, fault := types.Parse(text)
	if fault != (api.Fault{}) {
		panic(text)
	}
	return t
}

func words(text string) []string { return strings.Fields(text) }

// deep returns an expression of the given nesting.
func deep(nesting int) api.Expr {
	e := ev("x")
	for range nesting - 1 {
		e = neg(e)
	}
	return e
}

// deepPat returns a pattern of the given nesting.
func deepPat(nesting int) api.Pat {
	p := wild()
	for range nesting - 1 {
		p = pkids(api.PLazy, p)
	}
	return p
}

// broad returns an expression of the given size, which is not nested deeply.
func broad(size int) api.Expr {
	if size <= 2 {
		return deep(size)
	}
	left := (size - 1) / 2
	return app(broad(left), broad(size-1-left))
}
