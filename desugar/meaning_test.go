package desugar

import (
	"math/rand"
	"reflect"
	"slices"
	"strings"
	"testing"

	"lazyc/api"
	"lazyc/kernel"
	"lazyc/names"
	"lazyc/patterns"
	"lazyc/syntax"
	"lazyc/trees"
)

// The sorts of values of random expressions: the constructors with the sorts of their fields.
var sorts = map[string][]string{
	"Bool":  {"False", "True"},
	"List":  {"[]", ": Int List"},
	"Pair":  {"(,) Int Bool"},
	"Rec":   {"A Int List", "B Int Pair", "C"},
	"Chars": {"[]", ": Char Chars"},
}

// labels has the labels of the constructors of Rec.
var labels = map[string][]string{"A": {"n", "l"}, "B": {"n", "p"}}

func recordDatas() []api.Data {
	return []api.Data{data("Rec", "A n l | B n p | C")}
}

// variable is a variable of a sort, or, with a parameter's sort, a function.
type variable struct {
	name, param, sort string
}

// maker makes random expressions of a sort, all of whose variables have different names.
type maker struct {
	*rand.Rand
	names int
}

func (r *maker) pick(list ...string) string { return list[r.Intn(len(list))] }

func (r *maker) sort() string { return r.pick("Int", "Bool", "List", "Pair", "Rec", "Chars") }

func (r *maker) fresh(base string) string {
	r.names++
	return names.Made(base, r.names)
}

func ev(name string) api.Expr { return api.Expr{Op: api.EVar, Name: name} }
func ec(name string) api.Expr { return api.Expr{Op: api.ECon, Name: name} }

func apply(f api.Expr, args ...api.Expr) api.Expr {
	for _, arg := range args {
		f = api.Expr{Op: api.EApp, Kids: []api.Expr{f, arg}}
	}
	return f
}

// pat returns a pattern, and its variables.
func (r *maker) pat(sort string, deep int) (api.Pat, []variable) {
	switch n := r.Intn(20); {
	case n < 6 || deep == 0 && n < 12:
		v := variable{name: r.fresh("x"), sort: sort}
		return api.Pat{Op: api.PVar, Name: v.name}, []variable{v}
	case n < 7 || deep == 0:
		return api.Pat{Op: api.PWild}, nil
	case n < 8:
		v := variable{name: r.fresh("x"), sort: sort}
		p, vars := r.pat(sort, deep-1)
		return api.Pat{Op: api.PAs, Name: v.name, Kids: []api.Pat{p}}, append(vars, v)
	case n < 9:
		p, vars := r.pat(sort, deep-1)
		return api.Pat{Op: api.PLazy, Kids: []api.Pat{p}}, vars
	}
	switch sort {
	case "Int":
		return api.Pat{Op: api.PInt, N: r.Intn(4) - 1}, nil
	case "Char":
		return api.Pat{Op: api.PChar, N: 'a' + r.Intn(2)}, nil
	}
	con := strings.Fields(r.pick(sorts[sort]...))
	p := api.Pat{Op: api.PCon, Name: con[0]}
	var vars []variable
	for _, field := range con[1:] {
		kid, more := r.pat(field, deep-1)
		p.Kids = append(p.Kids, kid)
		vars = append(vars, more...)
	}
	switch list := labels[con[0]]; {
	case sort == "Chars" && r.Intn(2) == 0:
		return api.Pat{Op: api.PString, Text: r.pick("", "a", "ab")}, nil
	case con[0] == "(,)" && r.Intn(2) == 0:
		p = api.Pat{Op: api.PTuple, Kids: p.Kids}
	case list != nil && r.Intn(2) == 0:
		p.Op, p.Names = api.PRecord, []string{list[1], list[0]}
		p.Kids[0], p.Kids[1] = p.Kids[1], p.Kids[0]
	}
	return p, vars
}

// expr returns an expression in the scope of variables.
func (r *maker) expr(sort string, deep int, s []variable) api.Expr {
	if deep <= 0 || r.Intn(12) == 0 {
		return r.leaf(sort, s)
	}
	inner := func(sort string) api.Expr { return r.expr(sort, deep-1, s) }
	switch r.Intn(14) {
	case 0:
		return api.Expr{Op: api.EIf, Kids: []api.Expr{inner("Bool"), inner(sort), inner(sort)}}
	case 1, 2:
		decls, in := r.decls(deep-1, s)
		return api.Expr{Op: api.ELet, Decls: decls, Kids: []api.Expr{r.expr(sort, deep-1, in)}}
	case 3, 4:
		of := r.sort()
		e := api.Expr{Op: api.ECase, Kids: []api.Expr{inner(of)}}
		for range 1 + r.Intn(3) {
			c := r.clause([]string{of}, sort, deep-1, s)
			e.Alts = append(e.Alts, api.Alt{Pat: c.Pats[0], Rhs: c.Rhs, Where: c.Where})
		}
		return e
	case 5:
		return r.lambda(sort, deep, s)
	case 6:
		return api.Expr{Op: api.ESig, Kids: []api.Expr{inner(sort)}, Types: []api.Type{{Op: api.TCon, Name: "T"}}}
	case 7:
		for _, i := range r.Perm(len(s)) {
			if s[i].sort == sort && s[i].param != "" {
				return apply(ev(s[i].name), inner(s[i].param))
			}
		}
	}
	return r.ofSort(sort, deep, s)
}

// leaf returns an expression without parts: a variable, if there is one.
func (r *maker) leaf(sort string, s []variable) api.Expr {
	for _, i := range r.Perm(len(s)) {
		if s[i].sort == sort && s[i].param == "" && r.Intn(4) > 0 {
			return ev(s[i].name)
		}
	}
	switch sort {
	case "Int":
		return api.Expr{Op: api.EInt, N: r.Intn(4)}
	case "Bool":
		return ec(r.pick("False", "True"))
	case "List":
		return api.Expr{Op: api.EList}
	case "Chars":
		return api.Expr{Op: api.EString, Text: r.pick("", "a", "ab", "bb")}
	case "Pair":
		return api.Expr{Op: api.ETuple, Kids: []api.Expr{r.leaf("Int", s), r.leaf("Bool", s)}}
	}
	return ec("C")
}

// lambda returns an application of a lambda abstraction.
func (r *maker) lambda(sort string, deep int, s []variable) api.Expr {
	e := api.Expr{Op: api.ELam}
	in := slices.Clone(s)
	var args []api.Expr
	for range 1 + r.Intn(3) {
		of := r.sort()
		p, vars := r.pat(of, 2)
		e.Pats = append(e.Pats, p)
		in = append(in, vars...)
		args = append(args, r.expr(of, deep-2, s))
	}
	e.Kids = []api.Expr{r.expr(sort, deep-1, in)}
	return apply(e, args...)
}

// ofSort returns an expression of one of the forms that only some sorts have.
func (r *maker) ofSort(sort string, deep int, s []variable) api.Expr {
	inner := func(sort string) api.Expr { return r.expr(sort, deep-1, s) }
	kids := func(op api.ExprOp, list ...api.Expr) api.Expr { return api.Expr{Op: op, Kids: list} }
	switch sort {
	case "Int", "Bool":
		op := map[string]string{"Int": "intAdd", "Bool": r.pick("intLe", "intEq")}[sort]
		switch r.Intn(4) {
		case 0:
			return apply(api.Expr{Op: api.ELeft, Name: op, Kids: []api.Expr{inner("Int")}}, inner("Int"))
		case 1:
			return apply(api.Expr{Op: api.ERight, Name: op, Kids: []api.Expr{inner("Int")}}, inner("Int"))
		case 2:
			if sort == "Int" {
				return kids(api.ENeg, inner("Int"))
			}
		}
		return apply(ev(op), inner("Int"), inner("Int"))
	case "List":
		switch r.Intn(6) {
		case 0:
			return kids(api.EList, inner("Int"), inner("Int"))
		case 1:
			return kids(api.ERange, inner("Int"), inner("Int"))
		case 2, 3:
			return r.comprehension(deep, s)
		case 4:
			return r.do(deep, s)
		}
		return apply(api.Expr{Op: api.ELeft, Name: ":", Kids: []api.Expr{inner("Int")}}, inner("List"))
	case "Chars":
		return apply(ec(":"), api.Expr{Op: api.EChar, N: 'a' + r.Intn(2)}, inner("Chars"))
	case "Pair":
		return kids(api.ETuple, inner("Int"), inner("Bool"))
	}
	return r.record(deep, s)
}

func (r *maker) record(deep int, s []variable) api.Expr {
	fields := map[string]string{"n": "Int", "l": "List", "p": "Pair"}
	con := r.pick("A", "B")
	e := api.Expr{Op: api.ERecord, Name: con}
	list := labels[con]
	if r.Intn(2) == 0 {
		e = api.Expr{Op: api.EUpdate, Kids: []api.Expr{r.expr("Rec", deep-1, s)}}
		list = []string{r.pick("n", "l", "p")}
		if r.Intn(3) == 0 {
			list = slices.Compact([]string{list[0], "n"})
		}
	}
	for _, label := range list {
		if e.Op == api.EUpdate || r.Intn(4) > 0 {
			e.Fields = append(e.Fields, api.Field{Name: label, Expr: r.expr(fields[label], deep-1, s)})
		}
	}
	return e
}

// clause returns a clause for parameters of some sorts.
func (r *maker) clause(params []string, sort string, deep int, s []variable) api.Clause {
	var c api.Clause
	in := slices.Clone(s)
	for _, param := range params {
		p, vars := r.pat(param, 2)
		c.Pats = append(c.Pats, p)
		in = append(in, vars...)
	}
	if r.Intn(3) == 0 {
		c.Where, in = r.decls(deep-1, in)
	}
	c.Rhs = r.rhs(sort, deep, in)
	return c
}

func (r *maker) rhs(sort string, deep int, s []variable) []api.Rhs {
	if r.Intn(3) > 0 {
		return []api.Rhs{{Body: r.expr(sort, deep-1, s)}}
	}
	var list []api.Rhs
	for range 1 + r.Intn(2) {
		list = append(list, api.Rhs{Guard: []api.Expr{r.expr("Bool", deep-1, s)}, Body: r.expr(sort, deep-1, s)})
	}
	return list
}

// decls returns declarations, which may refer to each other, and the scope with what they bind.
func (r *maker) decls(deep int, s []variable) ([]api.Decl, []variable) {
	var decls []api.Decl
	in := slices.Clone(s)
	kinds := make([]int, 1+r.Intn(2))
	bound := make([]variable, len(kinds))
	pats := make([]api.Pat, len(kinds))
	for i := range kinds {
		kinds[i] = r.Intn(3)
		bound[i] = variable{name: r.fresh("f"), sort: r.sort()}
		switch kinds[i] {
		case 0:
			bound[i].param = r.sort()
			fallthrough
		case 1:
			in = append(in, bound[i])
		default:
			var vars []variable
			for pats[i].Op == 0 || pats[i].Op == api.PVar {
				pats[i], vars = r.pat(bound[i].sort, 2)
			}
			in = append(in, vars...)
		}
	}
	for i, v := range bound {
		switch kinds[i] {
		case 0:
			d := api.Decl{Op: api.DFun, Name: v.name}
			for range 1 + r.Intn(2) {
				d.Clauses = append(d.Clauses, r.clause([]string{v.param}, v.sort, deep-1, in))
			}
			decls = append(decls, d)
		case 1:
			decls = append(decls, api.Decl{Op: api.DFun, Name: v.name, Clauses: []api.Clause{r.clause(nil, v.sort, deep-1, in)}})
		default:
			c := r.clause(nil, v.sort, deep-1, in)
			decls = append(decls, api.Decl{Op: api.DPat, Pat: pats[i], Rhs: c.Rhs, Where: c.Where})
		}
	}
	return decls, in
}

// stmts returns statements, and the scope with what they bind. In a do expression the actions are lists.
func (r *maker) stmts(deep int, plain string, s []variable) ([]api.Stmt, []variable) {
	var list []api.Stmt
	for range 1 + r.Intn(3) {
		switch r.Intn(4) {
		case 0:
			list = append(list, api.Stmt{Op: api.StmtExp, Expr: r.expr(plain, deep-1, s)})
		case 1:
			decls, in := r.decls(deep-1, s)
			list = append(list, api.Stmt{Op: api.StmtLet, Decls: decls})
			s = in
		default:
			e := r.expr("List", deep-1, s)
			p, vars := r.pat("Int", 2)
			list = append(list, api.Stmt{Op: api.StmtGen, Pat: p, Expr: e})
			s = append(slices.Clone(s), vars...)
		}
	}
	return list, s
}

func (r *maker) comprehension(deep int, s []variable) api.Expr {
	stmts, in := r.stmts(deep, "Bool", s)
	return api.Expr{Op: api.EComp, Stmts: stmts, Kids: []api.Expr{r.expr("Int", deep-1, in)}}
}

func (r *maker) do(deep int, s []variable) api.Expr {
	stmts, in := r.stmts(deep, "List", s)
	last := api.Stmt{Op: api.StmtExp, Expr: r.expr("List", deep-1, in)}
	return api.Expr{Op: api.EDo, Names: []string{">>=", ">>"}, Stmts: append(stmts, last)}
}

// supplyFor returns a supply that avoids the names of an expression.
func supplyFor(e api.Expr) *names.Supply {
	m := api.Module{Decls: []api.Decl{{Op: api.DPat, Rhs: []api.Rhs{{Body: e}}}}}
	return names.NewSupply(append(trees.Bound(m), syntax.Free(e)...)...)
}

// P16.2, P16.3: the free variables and the meaning of random expressions.
func TestMeaning(t *testing.T) {
	r := &maker{rand.New(rand.NewSource(16)), 0}
	primitives := []string{"raise", "intNeg", "intLe", "intEq", "intAdd"}
	outcomes := map[string]int{}
	forms := map[api.ExprOp]int{}
	for range 2000 {
		r.names = 0
		e := r.expr(r.sort(), 5, nil)
		if syntax.CheckExpr(e) != api.OK {
			continue
		}
		copier := trees.Copier{OnExpr: func(_, copied api.Expr) api.Expr {
			forms[copied.Op]++
			return copied
		}}
		before := copier.Expr(e)
		k, fault := Expr(api.Env{Datas: recordDatas()}, e, supplyFor(e))
		if fault != (api.Fault{}) {
			t.Fatalf("%s: the fault %v", syntax.PrintExpr(e), fault)
		}
		if !syntax.SameExpr(before, e) {
			t.Fatal("the argument was changed")
		}
		checkNoSharing(t, k)
		for _, name := range kernel.Free(k) {
			if !slices.Contains(primitives, name) && !slices.Contains(syntax.Free(e), name) {
				t.Errorf("%s: %s has the free variable %s", syntax.PrintExpr(e), kernel.Print(k), name)
			}
		}
		want, known := outcome(func() value {
			ev := surface{newEvaluator(recordDatas()), patterns.NewTable(recordDatas()), recordDatas()}
			return ev.eval(&e, globals())
		})
		got, alsoKnown := outcome(func() value { return newEvaluator(recordDatas()).kernel(&k, globals()) })
		if known && alsoKnown && got != want {
			t.Fatalf("%s: %s has the value %s, want %s", syntax.PrintExpr(e), kernel.Print(k), got, want)
		}
		switch {
		case !known || !alsoKnown:
			outcomes["unknown"]++
		case strings.Contains(want, "!"):
			outcomes["exceptional"]++
		default:
			outcomes["other"]++
		}
	}
	if outcomes["other"] < 500 || outcomes["exceptional"] < 300 || outcomes["unknown"] > 500 {
		t.Errorf("the outcomes %v", outcomes)
	}
	// These are all forms but EInfix and EParen.
	for op := api.EVar; op <= api.EUpdate; op++ {
		if forms[op] < 100 && op != api.EInfix {
			t.Errorf("the form %d occurred %d times", op, forms[op])
		}
	}
}

// checkNoSharing checks that no two slices of a result share memory.
func checkNoSharing(t *testing.T, result any) {
	t.Helper()
	seen := map[uintptr]bool{}
	var visit func(v reflect.Value)
	visit = func(v reflect.Value) {
		switch v.Kind() {
		case reflect.Struct:
			for i := range v.NumField() {
				visit(v.Field(i))
			}
		case reflect.Slice:
			if v.Cap() == 0 {
				return
			}
			if seen[v.Pointer()] {
				t.Fatal("two slices of a result share memory")
			}
			seen[v.Pointer()] = true
			for i := range v.Len() {
				visit(v.Index(i))
			}
		}
	}
	visit(reflect.ValueOf(result))
}
