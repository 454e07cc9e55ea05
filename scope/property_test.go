package scope

import (
	"fmt"
	"maps"
	"math/rand"
	"reflect"
	"slices"
	"strings"
	"testing"

	"lazyc/api"
	"lazyc/names"
	"lazyc/syntax"
)

// pair is a tree of a source, and what it is resolved to.
type pair[T any] struct{ source, want T }

// generator makes random expressions and their resolved forms. An environment is never changed: an inner scope has a copy.
type generator struct {
	random *rand.Rand
	supply *names.Supply
}

type environment map[string]string

func (g *generator) name() string { return []string{"x", "y", "z", "f", ">>="}[g.random.Intn(5)] }

// bind returns different names, and the environment in which they are bound.
func (g *generator) bind(env environment, most int) ([]string, environment) {
	inner := maps.Clone(env)
	var list []string
	for range 1 + g.random.Intn(most) {
		if name := g.name(); !slices.Contains(list, name) {
			list = append(list, name)
			inner[name] = g.supply.Fresh(name)
		}
	}
	return list, inner
}

// pattern returns a pattern with these variables.
func (g *generator) pattern(vars []string, env environment) pair[api.Pat] {
	p := pair[api.Pat]{api.Pat{Op: api.PCon, Name: "T"}, api.Pat{Op: api.PCon, Name: "A.T"}}
	if g.random.Intn(2) == 0 {
		p = pair[api.Pat]{api.Pat{Op: api.PList}, api.Pat{Op: api.PList}}
	}
	for _, name := range vars {
		source, want := api.Pat{Op: api.PVar, Name: name}, api.Pat{Op: api.PVar, Name: env[name]}
		if g.random.Intn(3) == 0 {
			wild := []api.Pat{{Op: api.PWild}}
			source, want = api.Pat{Op: api.PAs, Name: name, Kids: wild}, api.Pat{Op: api.PAs, Name: env[name], Kids: wild}
		}
		p.source.Kids, p.want.Kids = append(p.source.Kids, source), append(p.want.Kids, want)
	}
	return p
}

func (g *generator) expr(depth int, env environment) pair[api.Expr] {
	if depth == 0 {
		name := g.name()
		want, ok := env[name]
		if !ok {
			want = "A." + name
		}
		return pair[api.Expr]{api.Expr{Op: api.EVar, Name: name}, api.Expr{Op: api.EVar, Name: want}}
	}
	depth = g.random.Intn(depth)
	switch g.random.Intn(6) {
	case 0:
		return g.kids(api.EApp, g.expr(depth, env), g.expr(depth, env))
	case 1:
		vars, inner := g.bind(env, 3)
		p := g.pattern(vars, inner)
		e := g.kids(api.ELam, g.expr(depth, inner))
		e.source.Pats, e.want.Pats = []api.Pat{p.source}, []api.Pat{p.want}
		return e
	case 2:
		vars, inner := g.bind(env, 4)
		decls := g.decls(depth, vars, inner)
		e := g.kids(api.ELet, g.expr(depth, inner))
		e.source.Decls, e.want.Decls = decls.source, decls.want
		return e
	case 3:
		e := g.kids(api.ECase, g.expr(depth, env))
		for range 2 {
			vars, inner := g.bind(env, 3)
			p := g.pattern(vars, inner)
			rhs, where := g.rhs(depth, inner)
			e.source.Alts = append(e.source.Alts, api.Alt{Pat: p.source, Rhs: rhs.source, Where: where.source})
			e.want.Alts = append(e.want.Alts, api.Alt{Pat: p.want, Rhs: rhs.want, Where: where.want})
		}
		return e
	case 4:
		stmts, inner := g.stmts(depth, env)
		e := g.kids(api.EComp, g.expr(depth, inner))
		e.source.Stmts, e.want.Stmts = stmts.source, stmts.want
		return e
	}
	return g.do(depth, env)
}

func (g *generator) kids(op api.ExprOp, list ...pair[api.Expr]) pair[api.Expr] {
	e := pair[api.Expr]{api.Expr{Op: op}, api.Expr{Op: op}}
	for _, kid := range list {
		e.source.Kids, e.want.Kids = append(e.source.Kids, kid.source), append(e.want.Kids, kid.want)
	}
	return e
}

// rhs returns right-hand sides with a where part.
func (g *generator) rhs(depth int, env environment) (pair[[]api.Rhs], pair[[]api.Decl]) {
	var vars []string
	if g.random.Intn(2) == 0 {
		vars, env = g.bind(env, 3)
	}
	guard, body := g.expr(depth, env), g.expr(depth, env)
	rhs := pair[[]api.Rhs]{[]api.Rhs{{Guard: []api.Expr{guard.source}, Body: body.source}}, []api.Rhs{{Guard: []api.Expr{guard.want}, Body: body.want}}}
	return rhs, g.decls(depth, vars, env)
}

// decls returns declarations that bind these variables: functions, and with the last two a pattern binding.
func (g *generator) decls(depth int, vars []string, env environment) pair[[]api.Decl] {
	var p pair[[]api.Decl]
	add := func(source, want api.Decl) { p.source, p.want = append(p.source, source), append(p.want, want) }
	for len(vars) > 2 {
		name := vars[0]
		params, inner := g.bind(env, 2)
		pat := g.pattern(params, inner)
		rhs, where := g.rhs(depth, inner)
		add(api.Decl{Op: api.DFun, Name: name, Clauses: []api.Clause{{Pats: []api.Pat{pat.source}, Rhs: rhs.source, Where: where.source}}},
			api.Decl{Op: api.DFun, Name: env[name], Clauses: []api.Clause{{Pats: []api.Pat{pat.want}, Rhs: rhs.want, Where: where.want}}})
		sig := api.Decl{Op: api.DSig, Names: []string{name}, Type: ty("Int")}
		add(sig, api.Decl{Op: api.DSig, Names: []string{env[name]}, Type: sig.Type})
		vars = vars[1:]
	}
	if len(vars) > 0 {
		pat := g.pattern(vars, env)
		rhs, where := g.rhs(depth, env)
		add(api.Decl{Op: api.DPat, Pat: pat.source, Rhs: rhs.source, Where: where.source}, api.Decl{Op: api.DPat, Pat: pat.want, Rhs: rhs.want, Where: where.want})
	}
	return p
}

func (g *generator) stmts(depth int, env environment) (pair[[]api.Stmt], environment) {
	var p pair[[]api.Stmt]
	for range 1 + g.random.Intn(3) {
		op := api.StmtOp(1 + g.random.Intn(3))
		source, want := api.Stmt{Op: op}, api.Stmt{Op: op}
		if op != api.StmtLet {
			e := g.expr(depth, env)
			source.Expr, want.Expr = e.source, e.want
		}
		switch op {
		case api.StmtGen:
			var vars []string
			vars, env = g.bind(env, 3)
			pat := g.pattern(vars, env)
			source.Pat, want.Pat = pat.source, pat.want
		case api.StmtLet:
			var vars []string
			vars, env = g.bind(env, 3)
			decls := g.decls(depth, vars, env)
			source.Decls, want.Decls = decls.source, decls.want
		}
		p.source, p.want = append(p.source, source), append(p.want, want)
	}
	return p, env
}

func (g *generator) do(depth int, env environment) pair[api.Expr] {
	operator, ok := env[">>="]
	if !ok {
		operator = "A.>>="
	}
	stmts, inner := g.stmts(depth, env)
	last := g.expr(depth, inner)
	p := pair[api.Expr]{api.Expr{Op: api.EDo, Stmts: append(stmts.source, api.Stmt{Op: api.StmtExp, Expr: last.source})},
		api.Expr{Op: api.EDo, Stmts: append(stmts.want, api.Stmt{Op: api.StmtExp, Expr: last.want}), Names: []string{"", ""}}}
	for _, s := range stmts.source {
		switch s.Op {
		case api.StmtGen:
			p.want.Names[0] = operator
		case api.StmtExp:
			p.want.Names[1] = "A.>>"
		}
	}
	return p
}

func propertyImports(t *testing.T) []api.Iface {
	return interfaces(t, "module A where { x = 1 ; y = 2 ; z = 3 ; f = 4 ; (>>=) = 5 ; (>>) = 6 ; data T = T }")
}

// P11.3, P11.5: every variable has the meaning that the scopes around it give it.
func TestRandomScopes(t *testing.T) {
	imports := propertyImports(t)
	for seed := range int64(800) {
		g := generator{rand.New(rand.NewSource(seed)), names.NewSupply()}
		e := g.expr(4, environment{})
		if syntax.CheckExpr(e.source) != api.OK {
			continue
		}
		before := fmt.Sprint(e.source)
		got, fault := Expr(e.source, imports)
		if fault != (api.Fault{}) || !syntax.SameExpr(got, e.want) {
			t.Fatalf("%s\n got %s %v\nwant %s", syntax.PrintExpr(e.source), syntax.PrintExpr(got), fault, syntax.PrintExpr(e.want))
		}
		if after := fmt.Sprint(e.source); after != before {
			t.Fatalf("the argument %s became %s", before, after)
		}
		for _, name := range syntax.Free(got) {
			if !strings.HasPrefix(name, "A.") {
				t.Fatalf("%s is free in %s", name, syntax.PrintExpr(got))
			}
		}
		m := api.Module{Name: "M", All: true, Imports: []api.Import{{Module: "A", As: "A", All: true}},
			Decls: []api.Decl{{Op: api.DFun, Name: "main", Clauses: []api.Clause{{Rhs: []api.Rhs{{Body: e.source}}}}}}}
		resolved, fault := Module(m, imports)
		if fault != (api.Fault{}) || !Unique(resolved) || !syntax.SameExpr(resolved.Decls[0].Clauses[0].Rhs[0].Body, got) {
			t.Fatalf("in a module %s becomes %s", syntax.PrintExpr(e.source), syntax.Print(resolved))
		}
		checkRenamed(t, got, imports)
	}
}

// checkRenamed checks that a resolved expression, whose names are written in another way, is resolved to the same one but for the bases.
func checkRenamed(t *testing.T, resolved api.Expr, imports []api.Iface) {
	t.Helper()
	plain := func(name string) string {
		if base, n, ok := names.Base(name); ok {
			return strings.Replace(base, ">>=", "bind", 1) + fmt.Sprint("_", n)
		}
		return name
	}
	source := renamed(resolved, plain)
	again, fault := Expr(source, imports)
	want := renamed(resolved, func(name string) string {
		if base := plain(name); base != name {
			return base + "$1"
		}
		return name
	})
	// The operators of do expressions are not written in the source, so that another one may be in scope.
	if fault != (api.Fault{}) || syntax.PrintExpr(again) != syntax.PrintExpr(want) {
		t.Fatalf("%s: %v, %s, want %s", syntax.PrintExpr(source), fault, syntax.PrintExpr(again), syntax.PrintExpr(want))
	}
}

// renamed returns a copy in which all names are replaced.
func renamed(e api.Expr, change func(string) string) api.Expr {
	v := reflect.New(reflect.TypeOf(e)).Elem()
	copyValue(v, reflect.ValueOf(e), change)
	return v.Interface().(api.Expr)
}

// copyValue copies a value in depth, with all strings changed but empty ones.
func copyValue(to, from reflect.Value, change func(string) string) {
	switch from.Kind() {
	case reflect.String:
		if from.String() != "" {
			to.SetString(change(from.String()))
		}
	case reflect.Struct:
		for i := range from.NumField() {
			copyValue(to.Field(i), from.Field(i), change)
		}
	case reflect.Slice:
		if !from.IsNil() {
			to.Set(reflect.MakeSlice(from.Type(), from.Len(), from.Len()))
		}
		for i := range from.Len() {
			copyValue(to.Index(i), from.Index(i), change)
		}
	default:
		to.Set(from)
	}
}

// overwrite destroys everything that a value refers to.
func overwrite(v reflect.Value) {
	switch v.Kind() {
	case reflect.Struct:
		for i := range v.NumField() {
			overwrite(v.Field(i))
		}
	case reflect.Slice:
		for i := range v.Len() {
			overwrite(v.Index(i))
			v.Index(i).SetZero()
		}
	}
}

// Results are new memory.
func TestMemory(t *testing.T) {
	imports := interfaces(t, "module A where { data T = T { l :: Int } | U { l :: Int } ; class C a where { m :: a } ; (>>=) = 1 }")
	source := "module M (f, T (..), C (m)) where { import A hiding (g, X (y)) ; data D a = D { k :: [a] } deriving (C) ; infixl 6 `f` ; class K a where { o :: C a => a ; o = 1 } ; " +
		"f, g :: C a => [a] -> T ; f x@[_] | x = 1 where { y = 2 } ; f x = [x, T { l = 1 }, x { l = 2 }, (x :: C a => a)] ; (g, h) | f = do { x <- y ; x } where { y = [x | x <- f] } ; instance C a => C (D a) where { m (T { l = x }) = case x of { y -> y } } }"
	m := parsed(t, source)
	operators := api.Expr{Op: api.EInfix, Kids: []api.Expr{{Op: api.EInt}, {Op: api.EInt}}, Names: []string{"+"}, Neg: []bool{false, true}}
	pats := []api.Pat{{Op: api.PInfix, Kids: []api.Pat{{Op: api.PInt}, {Op: api.PInt}}, Names: []string{":"}}}
	m.Decls = append(m.Decls, api.Decl{Op: api.DFun, Name: "i", Clauses: []api.Clause{{Pats: pats, Rhs: []api.Rhs{{Body: operators}}}}})
	before := fmt.Sprint(m, imports)
	resolved, fault := Module(m, imports)
	if fault != (api.Fault{}) {
		t.Fatal(fault)
	}
	exports, _ := Exports(m, imports)
	want, wantExports := fmt.Sprint(resolved), fmt.Sprint(exports)
	again, _ := Module(m, imports)
	overwrite(reflect.ValueOf(again))
	list, _ := Exports(m, imports)
	overwrite(reflect.ValueOf(list))
	if got := fmt.Sprint(m, imports); got != before {
		t.Errorf("the arguments became %s", got)
	}
	overwrite(reflect.ValueOf(m))
	overwrite(reflect.ValueOf(imports))
	if fmt.Sprint(resolved) != want || fmt.Sprint(exports) != wantExports {
		t.Errorf("results share memory")
	}
	checkShared(t, reflect.ValueOf(resolved), map[uintptr]bool{})
}

// checkShared checks that no two slices of a value begin at the same place.
func checkShared(t *testing.T, v reflect.Value, seen map[uintptr]bool) {
	switch v.Kind() {
	case reflect.Struct:
		for i := range v.NumField() {
			checkShared(t, v.Field(i), seen)
		}
	case reflect.Slice:
		if v.Len() > 0 && seen[v.Pointer()] {
			t.Errorf("%v is shared", v)
		}
		if v.Len() > 0 {
			seen[v.Pointer()] = true
		}
		for i := range v.Len() {
			checkShared(t, v.Index(i), seen)
		}
	}
}

// Everything terminates for the largest module, and for trees that are not well formed.
func TestLarge(t *testing.T) {
	var exports, subs []string
	m := api.Module{Name: "M"}
	one := []api.Rhs{{Body: api.Expr{Op: api.EInt}}}
	for i := range 3000 {
		name := fmt.Sprint("f", i)
		m.Decls = append(m.Decls, api.Decl{Op: api.DFun, Name: name, Clauses: []api.Clause{{Rhs: one}}})
		m.Exports = append(m.Exports, api.Export{Name: name})
		exports, subs = append(exports, "M."+name), append(subs, fmt.Sprint("A.C", i))
	}
	m.Imports = []api.Import{{Module: "A", As: "A", Names: []api.Export{{Name: "T", With: true}}}}
	imports := []api.Iface{{Module: "A", Exports: []api.Export{{Name: "A.T", Subs: subs}}}}
	resolved, fault := Module(m, imports)
	if fault != (api.Fault{}) || exportsText(resolved.Exports) != strings.Join(exports, " ") {
		t.Error(fault)
	}
	for seed := range int64(200) {
		g := generator{rand.New(rand.NewSource(seed)), names.NewSupply()}
		e := g.expr(4, environment{}).source
		e.Kids = append(e.Kids, api.Expr{Op: api.ExprOp(seed), Decls: []api.Decl{{Op: api.DeclOp(seed % 9), Decls: []api.Decl{{}}}}})
		Expr(e, nil)
		m := api.Module{Decls: []api.Decl{{Op: api.DeclOp(seed % 9), Rhs: []api.Rhs{{Body: e}}, Decls: []api.Decl{{Op: api.DFun}}}}}
		Module(m, nil)
		Exports(m, nil)
		Unique(m)
	}
}
