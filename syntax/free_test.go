package syntax

import (
	"math/rand"
	"slices"
	"strings"
	"testing"

	"lazyc/api"
)

// P6.4: the binders of patterns, whatever they are.
func TestBinders(t *testing.T) {
	for _, test := range []struct {
		p    api.Pat
		want string
	}{
		{pv("x"), "x"}, {wild(), ""}, {pi(1), ""}, {api.Pat{}, ""}, {pcon("A", pv("x"), pv("y"), pv("x")), "x y x"}, {as("x", as("y", pv("z"))), "x y z"},
		{pinfix(": :", pv("z"), as("+", pcon("A", pv("y"))), pv("x")), "z + y x"}, {precord("A", "l m", pv("x"), pv("y")), "x y"},
		{pkids(api.PTuple, pkids(api.PLazy, pv("x")), pkids(api.PList, pv("y"), pkids(api.PParen, pv("z")))), "x y z"},
		{api.Pat{Op: api.PString, Name: "n", Text: "x", Names: []string{"l"}}, ""},
		{api.Pat{Op: api.PVar, Name: "A", Kids: []api.Pat{pv("x")}}, "A x"}, {api.Pat{Op: 99, Name: "n", Kids: []api.Pat{pv("x"), {Op: api.PAs, Name: "y"}}}, "x y"},
	} {
		if got := Binders(test.p); !slices.Equal(got, words(test.want)) {
			t.Errorf("Binders(%v) = %v, want %s", test.p, got, test.want)
		}
	}
	if got := Binders(api.Pat{Op: api.PVar}); len(got) != 1 || got[0] != "" {
		t.Error(got)
	}
}

// P6.4: the free variables of each form, in order.
func TestFree(t *testing.T) {
	a, b, c, d := ev("a"), ev("b"), ev("c"), ev("d")
	withNames := do(gen(pv("a"), a), exp(b))
	withNames.Names = []string{"m", "n"}
	noNames := do(exp(a))
	noNames.Names = []string{"", "n"}
	wheres := []api.Decl{value("c", d), value("d", ev("e"))}
	for _, test := range []struct {
		e    api.Expr
		want string
	}{
		{a, "a"}, {ec("A"), ""}, {ei(1), ""}, {app(app(a, b), app(b, c)), "a b c"}, {ev("M.x$1"), "M.x$1"}, {ev("+"), "+"},
		{infix("+ A b : :+ M.+", a, b, c, d, a, b, a), "a + b c d M.+"}, {infix("+", ev("-"), a), "- + a"}, {negated("-", infix("", a)), "a"}, {neg(a), "a"},
		{lam(app(a, b), pv("a"), wild()), "b"}, {lam(a, as("b", pcon("A", pv("a")))), ""}, {app(lam(a, pv("a")), a), "a"}, {lam(lam(app(a, app(b, c)), pv("b")), pv("a")), "c"},
		{let(app(a, b), value("a", app(c, a))), "c b"}, {let(a, value("b", c), fun("c", clause(app(b, d), pv("d")))), "a"}, {let(a), "a"},
		{let(b, patDecl(pcon("A", pv("b"), pv("c")), app(c, d))), "d"}, {let(a, sig("b c", "a")), "a"}, {let(app(a, b), sig("b", "a"), value("a", b)), "b"},
		{let(a, fun("f", clause(app(b, a), pv("b")), clause(app(b, c), pv("a")))), "a b c"},
		{let(a, fun("f", api.Clause{Pats: []api.Pat{pv("a")}, Rhs: []api.Rhs{guarded(app(a, c), b)}, Where: wheres})), "b e a"},
		{let(a, patDecl(pkids(api.PParen, pv("b")), app(c, b), wheres...)), "e a"}, {let(d, patDecl(wild(), b, value("d", c))), "b c d"},
		{kids(api.EIf, c, b, a), "c b a"}, {caseOf(a, alt(pv("a"), app(a, b)), alt(wild(), a)), "a b"}, {caseOf(d, alt(pv("a"), app(c, a), wheres...)), "d e"},
		{caseOf(d, api.Alt{Pat: pv("b"), Rhs: []api.Rhs{guarded(c, a), guarded(b, ev("e"))}, Where: []api.Decl{value("e", ev("f"))}}), "d c a f"},
		{do(gen(pv("a"), a), exp(app(a, b))), "a b"}, {withNames, "m n a b"}, {noNames, "n a"}, {do(letStmt(value("a", app(a, b))), exp(app(a, c))), "b c"},
		{do(gen(pv("a"), b), gen(pv("b"), app(a, c)), exp(app(a, b))), "b c"}, {do(exp(a), gen(pv("a"), d), exp(a)), "a d"}, {lam(withNames, pv("m")), "n a b"}, {do(letStmt(sig("a", "a")), exp(a)), "a"},
		{kids(api.ETuple, b, a), "b a"}, {kids(api.EList, b, a, b), "b a"}, {kids(api.ERange, b, a), "b a"}, {kids(api.EParen, a), "a"},
		{comp(app(a, b), exp(c), gen(pv("a"), a), letStmt(value("b", app(d, b)))), "c a d"}, {comp(a, exp(b)), "b a"}, {comp(a, gen(pv("a"), b)), "b"},
		{section(api.ELeft, "+", a), "a +"}, {section(api.ERight, "+", a), "+ a"}, {section(api.ELeft, "A", a), "a"}, {section(api.ERight, ":", a), "a"}, {section(api.ERight, "b", a), "b a"},
		{signed(a, "b -> c", pred("C", "d")), "a"}, {record("A", field("l", b), field("m", a)), "b a"}, {update(c, field("l", b), field("a", a)), "c b a"}, {lam(section(api.ELeft, "+", a), pv("+")), "a"},
	} {
		if got := Free(test.e); !slices.Equal(got, words(test.want)) {
			t.Errorf("Free(%s) = %v, want %s", PrintExpr(test.e), got, test.want)
		}
	}
	for _, bad := range []api.Expr{{}, ev("A"), app(a, api.Expr{}), deep(101), broad(20001), kids(api.EInfix, a, b), kids(api.EIf, a)} {
		if got := Free(bad); len(got) != 0 {
			t.Errorf("Free(%.300v) = %v", bad, got)
		}
	}
}

// without returns the names that are not bound.
func without(all, bound []string) []string {
	return slices.DeleteFunc(all, func(name string) bool { return slices.Contains(bound, name) })
}

// The following functions return the occurrences of free variables, as often as they occur, by the rules of the chapter read one by one.

func usesOf(e api.Expr) []string {
	var uses []string
	switch e.Op {
	case api.EVar:
		return []string{e.Name}
	case api.ELam:
		uses = usesOf(e.Kids[0])
		for _, p := range e.Pats {
			uses = without(uses, Binders(p))
		}
		return uses
	case api.ELet:
		return without(append(usesOfDecls(e.Decls), usesOf(e.Kids[0])...), boundBy(e.Decls))
	case api.EDo:
		return append(slices.Clone(e.Names), usesOfStmts(e.Stmts, nil)...)
	case api.EComp:
		return usesOfStmts(e.Stmts, usesOf(e.Kids[0]))
	case api.ERight:
		uses = []string{e.Name}
	}
	for i, kid := range e.Kids {
		uses = append(uses, usesOf(kid)...)
		if i < len(e.Names) {
			uses = append(uses, e.Names[i])
		}
	}
	if e.Op == api.ELeft {
		uses = append(uses, e.Name)
	}
	for _, a := range e.Alts {
		uses = append(uses, without(usesOfRhs(a.Rhs, a.Where), Binders(a.Pat))...)
	}
	for _, f := range e.Fields {
		uses = append(uses, usesOf(f.Expr)...)
	}
	return uses
}

func usesOfStmts(list []api.Stmt, last []string) []string {
	if len(list) == 0 {
		return last
	}
	rest := usesOfStmts(list[1:], last)
	switch s := list[0]; s.Op {
	case api.StmtGen:
		return append(usesOf(s.Expr), without(rest, Binders(s.Pat))...)
	case api.StmtLet:
		return without(append(usesOfDecls(s.Decls), rest...), boundBy(s.Decls))
	default:
		return append(usesOf(s.Expr), rest...)
	}
}

func usesOfRhs(list []api.Rhs, where []api.Decl) []string {
	var uses []string
	for _, rhs := range list {
		for _, guard := range rhs.Guard {
			uses = append(uses, usesOf(guard)...)
		}
		uses = append(uses, usesOf(rhs.Body)...)
	}
	return without(append(uses, usesOfDecls(where)...), boundBy(where))
}

func usesOfDecls(list []api.Decl) []string {
	var uses []string
	for _, d := range list {
		for _, c := range d.Clauses {
			inside := usesOfRhs(c.Rhs, c.Where)
			for _, p := range c.Pats {
				inside = without(inside, Binders(p))
			}
			uses = append(uses, inside...)
		}
		uses = append(uses, usesOfRhs(d.Rhs, d.Where)...)
	}
	return uses
}

func boundBy(list []api.Decl) []string {
	var bound []string
	for _, d := range list {
		if d.Op == api.DFun {
			bound = append(bound, d.Name)
		}
		bound = append(bound, Binders(d.Pat)...)
	}
	return bound
}

// P6.4: random expressions.
func TestFreeMeaning(t *testing.T) {
	r := maker{rand.New(rand.NewSource(2))}
	for range 4000 {
		e := r.expr(4)
		var want []string
		for _, name := range usesOf(e) {
			if isVariable(name) && !slices.Contains(want, name) {
				want = append(want, name)
			}
		}
		got := Free(e)
		if !slices.Equal(got, want) {
			t.Fatalf("Free(%s) = %v, want %v", PrintExpr(e), got, want)
		}
		for _, name := range got {
			if strings.HasPrefix(name, ":") || name == "" {
				t.Fatal(name, "is no variable")
			}
		}
		p := r.pat(2)
		if got := Free(lam(e, p)); !slices.Equal(got, without(want, Binders(p))) {
			t.Fatalf("Free of an abstraction over %s: %v, from %v", PrintPat(p), got, want)
		}
	}
}
