package syntax

import (
	"slices"
	"strings"
	"testing"

	"lazyc/api"
)

// checkCode checks the errors of an expression, and of a module with it.
func checkCode(t *testing.T, what string, e api.Expr, alone, inModule api.Errno) {
	t.Helper()
	if got := CheckExpr(e); got != alone {
		t.Errorf("CheckExpr of %s: %d, want %d", what, got, alone)
	}
	if got := Check(main(value("x", e))); got != inModule {
		t.Errorf("Check with %s: %d, want %d", what, got, inModule)
	}
}

// P6.1: each kind of part adds 1 to the nesting.
func TestNesting(t *testing.T) {
	checkCode(t, "nesting 100", deep(100), api.OK, api.ErrDepth)
	checkCode(t, "nesting 101", deep(101), api.ErrDepth, api.ErrDepth)
	// A declaration, a clause and a right-hand side are around the expression.
	checkCode(t, "nesting 97", deep(97), api.OK, api.OK)
	checkCode(t, "nesting 98", deep(98), api.OK, api.ErrDepth)
	for what, wrapped := range map[string]struct {
		by   int // how much deeper the result is
		with func(e api.Expr) api.Expr
	}{
		"first part":  {1, func(e api.Expr) api.Expr { return app(e, x) }},
		"second part": {1, func(e api.Expr) api.Expr { return app(x, e) }},
		"field":       {1, func(e api.Expr) api.Expr { return record("A", field("x", x), field("x", e)) }},
		"body":        {1, func(e api.Expr) api.Expr { return lam(e, wild()) }},
		"alternative": {3, func(e api.Expr) api.Expr { return caseOf(x, alt(wild(), x), alt(wild(), e)) }},
		"guard":       {3, func(e api.Expr) api.Expr { return caseOf(x, api.Alt{Pat: wild(), Rhs: []api.Rhs{guarded(e, x)}}) }},
		"where":       {5, func(e api.Expr) api.Expr { return caseOf(x, alt(wild(), x, value("x", e))) }},
		"where of function": {6, func(e api.Expr) api.Expr {
			return let(x, fun("x", api.Clause{Rhs: is(x), Where: []api.Decl{value("x", e)}}))
		}},
		"where of pattern": {5, func(e api.Expr) api.Expr { return let(x, patDecl(wild(), x, value("x", e))) }},
		"pattern binding":  {3, func(e api.Expr) api.Expr { return let(x, patDecl(wild(), e)) }},
		"function":         {4, func(e api.Expr) api.Expr { return let(x, value("x", e)) }},
		"statement":        {2, func(e api.Expr) api.Expr { return do(exp(e)) }},
		"generator":        {2, func(e api.Expr) api.Expr { return do(gen(wild(), e), exp(x)) }},
		"let statement":    {5, func(e api.Expr) api.Expr { return do(letStmt(value("x", e)), exp(x)) }},
		"qualifier":        {2, func(e api.Expr) api.Expr { return comp(x, exp(e)) }},
	} {
		checkCode(t, what, wrapped.with(deep(97-wrapped.by)), api.OK, api.OK)
		checkCode(t, what, wrapped.with(deep(98-wrapped.by)), api.OK, api.ErrDepth)
		checkCode(t, what, wrapped.with(deep(100-wrapped.by)), api.OK, api.ErrDepth)
		checkCode(t, what, wrapped.with(deep(101-wrapped.by)), api.ErrDepth, api.ErrDepth)
	}
	for what, wrapped := range map[string]struct {
		by   int
		with func(p api.Pat) api.Expr
	}{
		"parameter":           {1, func(p api.Pat) api.Expr { return lam(x, wild(), p) }},
		"alternative":         {2, func(p api.Pat) api.Expr { return caseOf(x, alt(p, x)) }},
		"generator":           {2, func(p api.Pat) api.Expr { return comp(x, gen(p, x)) }},
		"pattern binding":     {2, func(p api.Pat) api.Expr { return let(x, patDecl(p, x)) }},
		"parameter of clause": {3, func(p api.Pat) api.Expr { return let(x, fun("f", clause(x, p))) }},
		"part":                {2, func(p api.Pat) api.Expr { return lam(x, pcon("A", wild(), p)) }},
	} {
		checkCode(t, what, wrapped.with(deepPat(97-wrapped.by)), api.OK, api.OK)
		checkCode(t, what, wrapped.with(deepPat(98-wrapped.by)), api.OK, api.ErrDepth)
		checkCode(t, what, wrapped.with(deepPat(101-wrapped.by)), api.ErrDepth, api.ErrDepth)
	}
	checkDecls(t, api.OK, inst("C", "a", value("x", deep(96))), data("T", "", api.ConDecl{Name: "A", Fields: []api.Type{deepType(100)}}))
	checkDecls(t, api.ErrDepth, inst("C", "a", value("x", deep(97))), class("C", "a", value("x", deep(97))))
}

// P6.1: the size of all together.
func TestGreatestSize(t *testing.T) {
	checkCode(t, "size 20000", broad(20000), api.OK, api.ErrLong)
	checkCode(t, "size 20001", broad(20001), api.ErrLong, api.ErrLong)
	checkCode(t, "size 19997", broad(19997), api.OK, api.OK)
	checkCode(t, "size 19998", broad(19998), api.OK, api.ErrLong)
	checkModule(t, api.OK, main(slices.Repeat([]api.Decl{fix(0, 1, "+")}, 20000)...))
	checkModule(t, api.ErrLong, main(slices.Repeat([]api.Decl{fix(0, 1, "+")}, 20001)...))
	checkModule(t, api.OK, exporting(slices.Repeat([]api.Export{{Name: "x"}}, 20000)...))
	checkModule(t, api.ErrLong, exporting(slices.Repeat([]api.Export{{Name: "x"}}, 20001)...))
	checkModule(t, api.OK, importing(slices.Repeat([]api.Import{{Module: "M", As: "M"}}, 20000)...))
	checkModule(t, api.ErrLong, importing(slices.Repeat([]api.Import{{Module: "M", As: "M"}}, 20001)...))
	names := func(n int) api.Module {
		return importing(api.Import{Module: "M", As: "M", Names: slices.Repeat([]api.Export{{Name: "x"}}, n)})
	}
	checkModule(t, api.OK, names(19999))
	checkModule(t, api.ErrLong, names(20000))
	fields := func(n int) api.Decl {
		return data("T", "", api.ConDecl{Name: "A", Fields: slices.Repeat([]api.Type{ty("a b")}, n)})
	}
	checkDecls(t, api.OK, fields(6666))
	checkDecls(t, api.ErrLong, fields(6667))
}

// P6.1: lists that must not be longer than 200, and others.
func TestLongLists(t *testing.T) {
	for n, want := range map[int]api.Errno{200: api.OK, 201: api.ErrLong} {
		exprs, pats := slices.Repeat([]api.Expr{x}, n), slices.Repeat([]api.Pat{wild()}, n)
		decls := slices.Repeat([]api.Decl{value("x", x)}, n)
		stmts, clauses := slices.Repeat([]api.Stmt{exp(x)}, n), slices.Repeat([]api.Clause{clause(x, wild())}, n)
		text := strings.Repeat("\n", n)
		checkExprs(t, want, kids(api.EList, exprs...), do(stmts...), comp(x, stmts...), caseOf(x, slices.Repeat([]api.Alt{alt(wild(), x)}, n)...),
			let(x, decls...), comp(x, letStmt(decls...)), caseOf(x, alt(wild(), x, decls...)), api.Expr{Op: api.EString, Text: text})
		checkPats(t, want, pkids(api.PList, pats...), api.Pat{Op: api.PString, Text: text})
		checkDecls(t, want, fun("f", clauses...), class("C", "a", decls...), inst("C", "a", decls...), patDecl(wild(), x, decls...),
			fun("f", api.Clause{Rhs: is(x), Where: decls}))
		signs := strings.Repeat(" ", n)
		checkExprs(t, api.OK, lam(x, pats...), record("A", slices.Repeat([]api.Field{field("x", x)}, n)...), negated(signs, infix(strings.Repeat("+ ", n-1), exprs...)))
		checkPats(t, api.OK, pcon("A", pats...), pinfix(strings.Repeat(": ", n-1), pats...), precord("A", strings.Repeat("x ", n), pats...))
		checkDecls(t, api.OK, data("T", strings.Repeat("a ", n), slices.Repeat([]api.ConDecl{con("A", "a")}, n)...), fun("f", api.Clause{Pats: pats, Rhs: is(x)}),
			sig(strings.Repeat("x ", n), "a", slices.Repeat([]api.Pred{pred("C", "a")}, n)...))
		checkModule(t, api.OK, main(decls...))
	}
}

// P6.1: the nesting comes first, then the size and the lists, then the form.
func TestOrderOfErrors(t *testing.T) {
	var none api.Expr
	long := slices.Repeat([]api.Expr{x}, 201)
	checkExprs(t, api.ErrDepth, app(broad(20001), deep(200)), app(none, deep(200)), app(kids(api.EList, long...), deep(200)), kids(99, deep(200)))
	checkExprs(t, api.ErrLong, app(none, broad(20001)), app(broad(20001), none), app(none, kids(api.EList, long...)), kids(99, broad(20001)))
	// Lists and parts count wherever they are.
	checkExprs(t, api.ErrLong, api.Expr{Op: api.EVar, Name: "x", Stmts: slices.Repeat([]api.Stmt{exp(x)}, 201)}, api.Expr{Op: 99, Alts: make([]api.Alt, 201)})
	checkExprs(t, api.ErrDepth, api.Expr{Op: api.EVar, Name: "x", Pats: []api.Pat{deepPat(101)}}, let(x, api.Decl{Pat: deepPat(101)}))
	checkExprs(t, api.ErrArg, api.Expr{Op: 99, Kids: long}, api.Expr{Op: api.EVar, Text: strings.Repeat("x", 201)})
	checkPats(t, api.ErrDepth, pkids(99, deepPat(101)))
	checkPats(t, api.ErrLong, pkids(99, pkids(api.PList, slices.Repeat([]api.Pat{{}}, 201)...)))
	checkPats(t, api.ErrArg, pkids(99, slices.Repeat([]api.Pat{wild()}, 201)...), api.Pat{Op: api.PVar, Text: strings.Repeat("x", 201)})
	checkDecls(t, api.ErrLong, api.Decl{Op: api.DSig, Clauses: make([]api.Clause, 201)}, api.Decl{Where: make([]api.Decl, 201)})
	checkModule(t, api.ErrDepth, api.Module{Decls: []api.Decl{{}, value("x", deep(98))}})
	checkModule(t, api.ErrLong, api.Module{Decls: []api.Decl{{}, value("x", broad(19998))}})
	checkModule(t, api.ErrArg, api.Module{Decls: []api.Decl{{}, value("x", x)}})
}

// P6.1: what has the Op 0 counts for nothing, with all of its parts.
func TestNoOp(t *testing.T) {
	hidden := api.Expr{Kids: []api.Expr{deep(200), broad(20001)}, Stmts: make([]api.Stmt, 201)}
	checkExprs(t, api.ErrArg, hidden, app(x, hidden), do(exp(hidden)), record("A", field("x", hidden)), lam(x, api.Pat{Kids: []api.Pat{deepPat(200)}}))
	checkDecls(t, api.ErrArg, patDecl(api.Pat{Kids: []api.Pat{deepPat(200)}}, hidden))
	e, p := hidden, api.Pat{Kids: []api.Pat{deepPat(200)}}
	for range 96 {
		e, p = neg(e), pkids(api.PLazy, p)
	}
	checkExprs(t, api.ErrArg, neg(e), lam(x, p))
	checkExprs(t, api.ErrDepth, neg(neg(neg(neg(neg(e))))), neg(neg(neg(neg(lam(x, p))))))
	checkDecls(t, api.ErrArg, api.Decl{Op: api.DSig, Names: []string{"x"}, Type: api.Type{Kids: slices.Repeat([]api.Type{ty("a")}, 20001)}})
	inside := api.Type{Op: api.TApp, Kids: slices.Repeat([]api.Type{{}}, 20001)}
	checkDecls(t, api.ErrLong, api.Decl{Op: api.DSig, Names: []string{"x"}, Type: inside})
}
