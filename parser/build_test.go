package parser

import (
	"strings"
	"testing"

	"lazyc/api"
	"lazyc/types"
)

func ev(name string) api.Expr { return api.Expr{Op: api.EVar, Name: name} }
func ec(name string) api.Expr { return api.Expr{Op: api.ECon, Name: name} }
func ei(n int) api.Expr       { return api.Expr{Op: api.EInt, N: n} }

// kids returns an expression that has only Kids.
func kids(op api.ExprOp, list ...api.Expr) api.Expr { return api.Expr{Op: op, Kids: list} }

func app(f api.Expr, args ...api.Expr) api.Expr {
	for _, arg := range args {
		f = kids(api.EApp, f, arg)
	}
	return f
}

func paren(e api.Expr) api.Expr { return kids(api.EParen, e) }

// infix returns a sequence; signs has a minus sign for each operand that has one before it, and a point for each other one.
func infix(signs, names string, list ...api.Expr) api.Expr {
	e := api.Expr{Op: api.EInfix, Names: strings.Fields(names), Kids: list}
	for _, sign := range signs {
		e.Neg = append(e.Neg, sign == '-')
	}
	return e
}

func lam(body api.Expr, pats ...api.Pat) api.Expr {
	return api.Expr{Op: api.ELam, Pats: pats, Kids: []api.Expr{body}}
}

func let(body api.Expr, decls ...api.Decl) api.Expr {
	return api.Expr{Op: api.ELet, Decls: decls, Kids: []api.Expr{body}}
}

func caseOf(e api.Expr, alts ...api.Alt) api.Expr {
	return api.Expr{Op: api.ECase, Kids: []api.Expr{e}, Alts: alts}
}

func do(stmts ...api.Stmt) api.Expr { return api.Expr{Op: api.EDo, Stmts: stmts} }

// section returns an ELeft or ERight.
func section(op api.ExprOp, name string, e api.Expr) api.Expr {
	return api.Expr{Op: op, Name: name, Kids: []api.Expr{e}}
}

func signed(e api.Expr, typ string, preds ...api.Pred) api.Expr {
	return api.Expr{Op: api.ESig, Kids: []api.Expr{e}, Preds: preds, Types: []api.Type{ty(typ)}}
}

func update(e api.Expr, fields ...api.Field) api.Expr {
	return api.Expr{Op: api.EUpdate, Kids: []api.Expr{e}, Fields: fields}
}

func field(name string, e api.Expr) api.Field { return api.Field{Name: name, Expr: e} }

func gen(p api.Pat, e api.Expr) api.Stmt { return api.Stmt{Op: api.StmtGen, Pat: p, Expr: e} }
func exp(e api.Expr) api.Stmt            { return api.Stmt{Op: api.StmtExp, Expr: e} }
func letStmt(d ...api.Decl) api.Stmt     { return api.Stmt{Op: api.StmtLet, Decls: d} }

func pv(name string) api.Pat { return api.Pat{Op: api.PVar, Name: name} }
func pi(n int) api.Pat       { return api.Pat{Op: api.PInt, N: n} }

func pkids(op api.PatOp, list ...api.Pat) api.Pat { return api.Pat{Op: op, Kids: list} }

func pparen(p api.Pat) api.Pat { return pkids(api.PParen, p) }

func pcon(name string, list ...api.Pat) api.Pat {
	return api.Pat{Op: api.PCon, Name: name, Kids: list}
}

func pinfix(names string, list ...api.Pat) api.Pat {
	return api.Pat{Op: api.PInfix, Names: strings.Fields(names), Kids: list}
}

func precord(name, labels string, list ...api.Pat) api.Pat {
	return api.Pat{Op: api.PRecord, Name: name, Names: strings.Fields(labels), Kids: list}
}

func as(name string, p api.Pat) api.Pat {
	return api.Pat{Op: api.PAs, Name: name, Kids: []api.Pat{p}}
}

// is returns the right-hand side without a guard.
func is(e api.Expr) []api.Rhs { return []api.Rhs{{Body: e}} }

func guarded(guard, body api.Expr) api.Rhs { return api.Rhs{Guard: []api.Expr{guard}, Body: body} }

func clause(body api.Expr, pats ...api.Pat) api.Clause { return api.Clause{Pats: pats, Rhs: is(body)} }

func fun(name string, clauses ...api.Clause) api.Decl {
	return api.Decl{Op: api.DFun, Name: name, Clauses: clauses}
}

func value(name string, e api.Expr) api.Decl { return fun(name, clause(e)) }

func bind(p api.Pat, e api.Expr) api.Decl { return api.Decl{Op: api.DPat, Pat: p, Rhs: is(e)} }

func sig(names, typ string, preds ...api.Pred) api.Decl {
	return api.Decl{Op: api.DSig, Names: strings.Fields(names), Preds: preds, Type: ty(typ)}
}

func fix(assoc api.Assoc, n int, names string) api.Decl {
	return api.Decl{Op: api.DFix, Assoc: assoc, N: n, Names: strings.Fields(names)}
}

func con(name string, fields ...string) api.ConDecl {
	c := api.ConDecl{Name: name}
	for _, f := range fields {
		c.Fields = append(c.Fields, ty(f))
	}
	return c
}

func pred(class, name string) api.Pred {
	return api.Pred{Class: class, Type: api.Type{Op: api.TVar, Name: name}}
}

// ty returns the type with a text.
func ty(text string) api.Type {
	t, fault := types.Parse(text)
	if fault != (api.Fault{}) {
		panic(text)
	}
	return t
}

func main(decls ...api.Decl) api.Module {
	return api.Module{Name: "Main", All: true, Decls: decls}
}

// checkFaults checks the faults of sources.
func checkFaults[T any](t *testing.T, read func(string) (T, api.Fault), empty func(T) bool, cases []faultCase) {
	t.Helper()
	for _, c := range cases {
		got, fault := read(c.src)
		if fault != c.want || !empty(got) {
			t.Errorf("%q: %v with %v, want %v", c.src, fault, got, c.want)
		}
	}
}

type faultCase struct {
	src  string
	want api.Fault
}

// at returns the fault at a token that is not possible.
func at(name string, line, col int) api.Fault {
	return api.Fault{Code: api.ErrSyntax, Name: name, Line: line, Col: col}
}
