package syntax

import (
	"reflect"
	"slices"
	"testing"

	"lazyc/api"
)

var x, y = ev("x"), ev("y")

// exprForms are an expression of each form, with all the fields that the form may use.
func exprForms() []api.Expr {
	return []api.Expr{
		x, ec("A"), ei(1), {Op: api.EChar, N: 65}, {Op: api.EString, Text: "s"}, app(x, y), negated(" -", infix("+", x, y)), neg(x), lam(x, pv("y")),
		let(x, value("y", x)), kids(api.EIf, x, x, x), caseOf(x, alt(wild(), y)), {Op: api.EDo, Stmts: []api.Stmt{exp(x)}, Names: []string{"b", "t"}},
		kids(api.ETuple, x, y), kids(api.EList, x), comp(x, exp(y)), kids(api.ERange, x, y), section(api.ELeft, "-", x), section(api.ERight, "+", x),
		signed(x, "a", pred("C", "a")), record("A", field("x", y)), update(x, field("x", y)), kids(api.EParen, x),
	}
}

// patForms are a pattern of each form.
func patForms() []api.Pat {
	return []api.Pat{
		pv("x"), wild(), pi(-1), {Op: api.PChar, N: 65}, {Op: api.PString, Text: "s"}, pcon("A", wild()), pkids(api.PTuple, wild(), wild()),
		pkids(api.PList, wild()), as("x", wild()), pkids(api.PLazy, wild()), precord("A", "x", wild()), pinfix(":", wild(), wild()), pkids(api.PParen, wild()),
	}
}

// declForms are a declaration of each form.
func declForms() []api.Decl {
	d := data("T", "a", labelled("x", con("A", "a")))
	d.Derive = []string{"Eq"}
	return []api.Decl{
		d, given(class("C", "a", sig("x", "a")), pred("D", "a")), given(inst("C", "Int", value("x", y)), pred("D", "a")),
		sig("x", "a", pred("D", "a")), fix(api.AssocLeft, 3, "+"), fun("f", clause(x, wild()), clause(y, pv("z"))), patDecl(wild(), x, value("x", y)),
	}
}

// checkExprs checks the error of expressions, also in a module.
func checkExprs(t *testing.T, want api.Errno, list ...api.Expr) {
	t.Helper()
	for _, e := range list {
		if got := CheckExpr(e); got != want {
			t.Errorf("CheckExpr(%.300v) = %d, want %d", e, got, want)
		}
		checkDecls(t, want, value("x", e))
	}
}

func checkPats(t *testing.T, want api.Errno, list ...api.Pat) {
	t.Helper()
	for _, p := range list {
		checkExprs(t, want, lam(x, p))
	}
}

func checkDecls(t *testing.T, want api.Errno, list ...api.Decl) {
	t.Helper()
	for _, d := range list {
		checkModule(t, want, main(d))
	}
}

func checkModule(t *testing.T, want api.Errno, m api.Module) {
	t.Helper()
	if got := Check(m); got != want {
		t.Errorf("Check(%.300v) = %d, want %d", m, got, want)
	}
}

// P6.1: every form, and numbers of parts that are just possible.
func TestWellFormed(t *testing.T) {
	checkExprs(t, api.OK, exprForms()...)
	checkPats(t, api.OK, patForms()...)
	checkDecls(t, api.OK, declForms()...)
	checkModule(t, api.OK, main())
	checkExprs(t, api.OK,
		ei(0), ei(api.MaxInt), api.Expr{Op: api.EChar}, api.Expr{Op: api.EChar, N: 255}, api.Expr{Op: api.EString}, api.Expr{Op: api.EString, Text: "\x00\xff\n"},
		negated("-", infix("", x)), infix("+ A x x$1 () M.+ +$2 - :+ (,)", slices.Repeat([]api.Expr{x}, 11)...), let(x),
		api.Expr{Op: api.EDo, Names: []string{"", ""}, Stmts: []api.Stmt{letStmt(), gen(wild(), x), exp(x), exp(x)}},
		kids(api.ETuple), kids(api.ETuple, x, x, x, x, x, x, x), kids(api.EList), comp(x, gen(wild(), x)), comp(x, letStmt()),
		signed(x, "forall$1 -> [a]"), record("()"), record(":+", field("+", x), field("M.x$1", x)), update(x, field("x", x), field("x", x)),
		section(api.ERight, "M.-", x), section(api.ERight, "A", x), section(api.ELeft, "(,)", x))
	checkPats(t, api.OK, pi(0), pi(-api.MaxInt), pi(api.MaxInt), api.Pat{Op: api.PChar}, api.Pat{Op: api.PChar, N: 255}, api.Pat{Op: api.PString},
		pcon("[]"), pcon("A"), pkids(api.PTuple), pkids(api.PTuple, slices.Repeat([]api.Pat{wild()}, 7)...), pkids(api.PList), as("+", wild()),
		precord("A", ""), precord("M.:+", "x + x$1", wild(), wild(), wild()), pinfix(": A () :+$1", slices.Repeat([]api.Pat{wild()}, 5)...))
	wheres := api.Alt{Pat: wild(), Rhs: []api.Rhs{guarded(x, x), guarded(y, y)}, Where: []api.Decl{sig("x", "a"), value("x", y), patDecl(wild(), x)}}
	checkExprs(t, api.OK, caseOf(x, alt(wild(), x), wheres), caseOf(x, api.Alt{Pat: wild(), Rhs: []api.Rhs{guarded(x, x)}}))
	checkDecls(t, api.OK, data("T", ""), data("M.:+", "forall a a", con("A", ""), con(":+", "Int; Maybe a -> b")), class("C", "forall"),
		class("M.C", "a", value("x", y), sig("x + y", "a")), inst("M.:+", "(a, b) -> c"), inst("()", "a", value("x", y)), sig("x y$1 + M.x", "forall$1"),
		fix(api.AssocNone, 0, "+ x A : M.x$1"), fix(api.AssocRight, 9, "()"), value("+", x), fun("M.f", clause(x, wild(), wild())), patDecl(pkids(api.PParen, pv("x")), x))
}

// valueFor returns a value other than zero for a field that is not used, with parts that are well formed.
func valueFor(typ reflect.Type) []any {
	switch typ.String() {
	case "string":
		return []any{"x", "A"}
	case "int":
		return []any{1, -1}
	case "bool":
		return []any{true}
	case "api.Assoc":
		return []any{api.AssocLeft}
	case "[]string":
		return []any{[]string{"x"}, []string{""}}
	case "[]bool":
		return []any{[]bool{false}, []bool{true}}
	case "[]api.Expr":
		return []any{[]api.Expr{x}, []api.Expr{{}}}
	case "[]api.Pat":
		return []any{[]api.Pat{wild()}, []api.Pat{{}}}
	case "[]api.Alt":
		return []any{[]api.Alt{alt(wild(), x)}}
	case "[]api.Decl":
		return []any{[]api.Decl{value("x", y)}}
	case "[]api.Stmt":
		return []any{[]api.Stmt{exp(x)}}
	case "[]api.Field":
		return []any{[]api.Field{field("x", x)}, []api.Field{{}}}
	case "[]api.Pred":
		return []any{[]api.Pred{pred("C", "a")}, []api.Pred{{}}}
	case "[]api.Type":
		return []any{[]api.Type{ty("a")}, []api.Type{{}}}
	case "[]api.ConDecl":
		return []any{[]api.ConDecl{con("A", "")}}
	case "[]api.Clause":
		return []any{[]api.Clause{clause(x)}}
	case "[]api.Rhs":
		return []any{is(x)}
	case "api.Pat":
		return []any{wild(), api.Pat{Name: "x"}, api.Pat{N: 1}, api.Pat{Text: "x"}, api.Pat{Kids: []api.Pat{wild()}}, api.Pat{Names: []string{"x"}}}
	case "api.Expr":
		return []any{x, api.Expr{Name: "x"}, api.Expr{Neg: []bool{false}}, kids(0, x)}
	case "api.Type":
		return []any{ty("a"), api.Type{Name: "a"}, api.Type{Bound: api.Kind{Args: []api.Kind{{}}}}, api.Type{Kids: []api.Type{ty("a")}}}
	}
	panic(typ)
}

// checkUnused checks that no tree of a form may have a field that is zero in the example, which has all possible fields.
func checkUnused[T any](t *testing.T, example T, check func(*testing.T, api.Errno, ...T)) {
	t.Helper()
	typ := reflect.TypeOf(example)
	for i := range typ.NumField() {
		if f := reflect.ValueOf(&example).Elem().Field(i); !f.IsZero() {
			continue
		}
		for _, value := range valueFor(typ.Field(i).Type) {
			changed := example
			reflect.ValueOf(&changed).Elem().Field(i).Set(reflect.ValueOf(value))
			check(t, api.ErrArg, changed)
		}
	}
	empty := example
	for i := range typ.NumField() {
		if f := reflect.ValueOf(&empty).Elem().Field(i); f.IsZero() && f.Kind() == reflect.Slice {
			f.Set(reflect.MakeSlice(f.Type(), 0, 1))
		}
	}
	check(t, api.OK, empty)
}

// P6.1: fields that are not mentioned are zero, and empty slices are as good as none.
func TestUnusedFields(t *testing.T) {
	for _, e := range exprForms() {
		checkUnused(t, e, checkExprs)
	}
	for _, p := range patForms() {
		checkUnused(t, p, checkPats)
	}
	for _, d := range declForms() {
		checkUnused(t, d, checkDecls)
	}
	for _, s := range []api.Stmt{gen(wild(), x), letStmt(value("x", y)), exp(x)} {
		checkUnused(t, s, func(t *testing.T, want api.Errno, list ...api.Stmt) {
			t.Helper()
			checkExprs(t, want, comp(x, list...), do(append(list, exp(x))...))
		})
	}
}

// P6.1: what the forms of expressions demand.
func TestExprDemands(t *testing.T) {
	many := slices.Repeat([]api.Expr{x}, 8)
	for n := range 9 {
		for op, possible := range map[api.ExprOp]bool{
			api.EApp: n == 2, api.ENeg: n == 1, api.EIf: n == 3, api.ETuple: n == 0 || n > 1 && n < 8, api.EList: true, api.ERange: n == 2, api.EParen: n == 1,
		} {
			want := api.ErrArg
			if possible {
				want = api.OK
			}
			checkExprs(t, want, kids(op, many[:n]...))
		}
		if n != 1 {
			for _, op := range []api.ExprOp{api.ELam, api.ELet, api.ECase, api.EComp, api.ELeft, api.ERight, api.ESig, api.EUpdate} {
				for _, e := range exprForms() {
					if e.Op == op {
						e.Kids = many[:n]
						checkExprs(t, api.ErrArg, e)
					}
				}
			}
		}
	}
	checkExprs(t, api.ErrArg, api.Expr{}, api.Expr{Op: -1}, api.Expr{Op: 24}, kids(24, x), ei(-1), ei(-api.MaxInt-1),
		api.Expr{Op: api.EChar, N: -1}, api.Expr{Op: api.EChar, N: 256}, lam(x), caseOf(x), do(), do(letStmt()), do(exp(x), gen(wild(), x)), comp(x), update(x),
		api.Expr{Op: api.ESig, Kids: many[:1]}, api.Expr{Op: api.ESig, Kids: many[:1], Types: []api.Type{ty("a"), ty("a")}})
	for _, names := range [][]string{{""}, {"x"}, {"x", "x", "x"}, {"x", "A"}, {"A", "x"}} {
		e := do(exp(x))
		e.Names = names
		checkExprs(t, api.ErrArg, e)
	}
	checkExprs(t, api.ErrArg, infix(""), infix("", x), infix("+"), infix("+", x), infix("+ +", x, x), infix("", x, x), negated(" ", infix("", x)),
		negated("-", infix("+", x, x)), negated("---", infix("+", x, x)), negated("", infix("+", x, x)), negated("--", infix("", x)))
	checkExprs(t, api.OK, negated("--", infix("+", x, x)))
}

// P6.1: what the forms of patterns demand.
func TestPatDemands(t *testing.T) {
	many := slices.Repeat([]api.Pat{wild()}, 8)
	for n := range 9 {
		for op, possible := range map[api.PatOp]bool{
			api.PTuple: n == 0 || n > 1 && n < 8, api.PList: true, api.PLazy: n == 1, api.PParen: n == 1,
		} {
			want := api.ErrArg
			if possible {
				want = api.OK
			}
			checkPats(t, want, pkids(op, many[:n]...))
		}
		if n != 1 {
			checkPats(t, api.ErrArg, api.Pat{Op: api.PAs, Name: "x", Kids: many[:n]}, precord("A", "x", many[:n]...))
		}
		if n != 2 {
			checkPats(t, api.ErrArg, pinfix(":", many[:n]...))
		}
	}
	checkPats(t, api.ErrArg, api.Pat{}, api.Pat{Op: -1}, api.Pat{Op: 14}, pkids(14, wild()), pi(-api.MaxInt-1),
		api.Pat{Op: api.PChar, N: -1}, api.Pat{Op: api.PChar, N: 256}, pinfix("", wild()), pinfix(": :", wild(), wild()))
}

// P6.1: a part that is not well formed spoils the whole.
func TestBadParts(t *testing.T) {
	var none api.Expr
	bad := value("x", none)
	list := []api.Expr{
		app(x, none), app(none, x), infix("+", x, none), neg(none), lam(none, wild()), lam(x, wild(), api.Pat{}), let(none), let(x, value("y", x), bad), let(x, api.Decl{}),
		kids(api.EIf, x, x, none), caseOf(none, alt(wild(), x)), caseOf(x, alt(wild(), x), alt(wild(), none)), caseOf(x, alt(api.Pat{}, x)),
		caseOf(x, alt(wild(), x, bad)), caseOf(x, api.Alt{}), do(api.Stmt{}, exp(x)), do(exp(x), exp(none)), do(letStmt(bad), exp(x)), do(gen(wild(), none), exp(x)),
		do(gen(api.Pat{}, x), exp(x)), do(api.Stmt{Op: 4, Expr: x}, exp(x)), do(api.Stmt{Op: 4, Expr: x}), kids(api.ETuple, x, none), kids(api.EList, x, none), comp(none, exp(x)),
		comp(x, exp(none)), kids(api.ERange, none, x), section(api.ELeft, "+", none), section(api.ERight, "+", none), signed(none, "a"),
		record("A", field("x", none)), update(none, field("x", x)), update(x, field("x", x), field("x", none)), kids(api.EParen, none),
	}
	checkExprs(t, api.ErrArg, list...)
	checkPats(t, api.ErrArg, pcon("A", wild(), api.Pat{}), pkids(api.PTuple, api.Pat{}, wild()), pkids(api.PList, api.Pat{}), as("x", api.Pat{}),
		pkids(api.PLazy, api.Pat{}), precord("A", "x", api.Pat{}), pinfix(":", wild(), api.Pat{}), pkids(api.PParen, api.Pat{}))
	for _, rhs := range [][]api.Rhs{
		nil, {{Body: x}, {Body: y}}, {guarded(x, y), {Body: y}}, {{Body: y}, guarded(x, y)}, {{Guard: []api.Expr{x, y}, Body: y}},
		{guarded(none, y)}, {guarded(x, none)}, {guarded(x, y), guarded(x, none)}, {{}},
	} {
		checkExprs(t, api.ErrArg, caseOf(x, api.Alt{Pat: wild(), Rhs: rhs}))
		checkDecls(t, api.ErrArg, fun("x", api.Clause{Rhs: rhs}), api.Decl{Op: api.DPat, Pat: wild(), Rhs: rhs})
	}
}

// P6.1: types and contexts.
func TestTypes(t *testing.T) {
	forall := ty("forall b. b")
	for _, bad := range []api.Type{{}, {Op: api.TVar}, {Op: api.TVar, Name: "forall"}, forall, ty("[forall b. b]"), ty("a -> forall b. b"), deepType(101)} {
		e := signed(x, "a")
		e.Types[0] = bad
		checkExprs(t, api.ErrArg, e)
		checkDecls(t, api.ErrArg, api.Decl{Op: api.DSig, Names: []string{"x"}, Type: bad}, api.Decl{Op: api.DInst, Class: "C", Type: bad},
			data("T", "", con("A", ""), api.ConDecl{Name: "A", Fields: []api.Type{ty("a"), bad}}))
	}
	for _, bad := range []api.Type{{}, {Op: api.TVar}, {Op: api.TVar, Name: "A"}, {Op: api.TVar, Name: "a", Kids: []api.Type{{}}}, ty("Int"), ty("f a"), forall} {
		preds := []api.Pred{pred("C", "a"), {Class: "C", Type: bad}}
		checkExprs(t, api.ErrArg, signed(x, "a", preds...))
		checkDecls(t, api.ErrArg, given(sig("x", "a"), preds...), given(class("C", "a"), preds...), given(inst("C", "a"), preds...))
	}
	e := signed(x, "a")
	e.Types[0] = deepType(100)
	checkExprs(t, api.OK, e)
}

// deepType returns a type of the given depth.
func deepType(depth int) api.Type {
	t := ty("a")
	for range depth - 1 {
		t = api.Type{Op: api.TApp, Kids: []api.Type{ty("[]"), t}}
	}
	return t
}

// P6.1: what the forms of declarations demand.
func TestDeclDemands(t *testing.T) {
	checkDecls(t, api.ErrArg, api.Decl{}, api.Decl{Op: -1}, api.Decl{Op: 8}, api.Decl{Op: 8, Names: []string{"x"}},
		labelledData("x"), labelledData("x y z"), data("T", "", labelled("x", con("A", ""))), class("C", ""), class("C", "a b"),
		api.Decl{Op: api.DSig, Type: ty("a")}, fix(-1, 1, "+"), fix(3, 1, "+"), fix(0, -1, "+"), fix(0, 10, "+"), fix(0, 1, ""),
		fun("f"), fun("f", clause(x), clause(x)), fun("f", clause(x, wild()), clause(x)), fun("f", clause(x), clause(x, wild())),
		fun("f", clause(x, wild()), clause(x, wild(), wild())), patDecl(pv("x"), x), patDecl(api.Pat{}, x))
	checkDecls(t, api.OK, labelledData(""), labelledData("x y"), fun("f", clause(x, wild(), wild()), clause(x, wild(), wild())), patDecl(as("x", wild()), x))
	for _, d := range declForms() {
		for _, place := range []struct {
			decls []api.Decl
			may   []api.DeclOp
		}{
			{[]api.Decl{class("C", "a", sig("x", "a"), d)}, []api.DeclOp{api.DSig, api.DFun}},
			{[]api.Decl{inst("C", "a", d)}, []api.DeclOp{api.DFun}},
			{localIn(d), []api.DeclOp{api.DSig, api.DFun, api.DPat}},
		} {
			want := api.ErrArg
			if slices.Contains(place.may, d.Op) {
				want = api.OK
			}
			checkDecls(t, want, place.decls...)
		}
	}
	for _, bad := range []api.Decl{value("A", x), sig("A", "a"), {Op: api.DFun, Name: "x"}} {
		checkDecls(t, api.ErrArg, localIn(bad)...)
		checkDecls(t, api.ErrArg, class("C", "a", bad), inst("C", "a", bad))
	}
}

func labelledData(labels string) api.Decl {
	return data("T", "", labelled(labels, con("A", "Int; Int")))
}

// localIn returns declarations that contain a local one, at each place that has such.
func localIn(d api.Decl) []api.Decl {
	return []api.Decl{
		value("x", let(x, value("y", x), d)), value("x", caseOf(x, alt(wild(), x, d))), value("x", comp(x, letStmt(d))),
		fun("x", api.Clause{Rhs: is(x), Where: []api.Decl{d}}), patDecl(wild(), x, d),
	}
}

// P6.1: exports and imports.
func TestModuleDemands(t *testing.T) {
	check := func(want api.Errno, exports []api.Export, imports ...api.Import) {
		t.Helper()
		checkModule(t, want, api.Module{Name: "M", Exports: exports, Imports: imports})
		checkModule(t, want, importing(append(imports, api.Import{Module: "M", As: "M", Names: exports})...))
		checkModule(t, want, importing(append(imports, api.Import{Module: "M", As: "M", Hiding: true, Names: exports})...))
	}
	check(api.OK, nil)
	check(api.OK, []api.Export{{Name: "T"}, {Name: "T", With: true}, {Name: "T", Subs: []string{"A", "x", ":+", "+"}}, {Name: "x"}})
	check(api.ErrArg, []api.Export{{Name: "x", With: true}})
	check(api.ErrArg, []api.Export{{Name: "x", Subs: []string{"A"}}})
	check(api.ErrArg, []api.Export{{Name: "T", With: true, Subs: []string{"A"}}})
	check(api.ErrArg, []api.Export{{Name: "x"}, {}})
	check(api.OK, nil, api.Import{Module: "M", As: "N", All: true}, api.Import{Module: "M", As: "N", Qualified: true, Hiding: true})
	check(api.ErrArg, nil, api.Import{Module: "M", As: "N", All: true, Hiding: true})
	check(api.ErrArg, nil, api.Import{Module: "M", As: "N", All: true, Names: []api.Export{{Name: "x"}}})
	check(api.ErrArg, nil, api.Import{Module: "M", As: "M"}, api.Import{})
	all := exporting(api.Export{Name: "x"})
	all.All = true
	checkModule(t, api.ErrArg, all)
	checkModule(t, api.ErrArg, api.Module{})
	checkModule(t, api.ErrArg, main(value("x", y), api.Decl{}))
}
