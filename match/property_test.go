package match

import (
	"fmt"
	"math/rand"
	"reflect"
	"slices"
	"strings"
	"testing"

	"lazyc/api"
	"lazyc/kernel"
	"lazyc/names"
	"lazyc/patterns"
	"lazyc/syntax"
	"lazyc/trees"
)

// The sorts of values of which random patterns are made: the constructors with the sorts of their fields.
var sorts = map[string][]string{
	"Bool": {"False", "True"},
	"List": {"[]", ": Int List"},
	"Pair": {"(,) Tree Bool"},
	"Tree": {"Leaf", "Node Tree Int Tree", "Tip Chars"},
	"Chars": {
		"[]", ": Char Chars",
	},
}

var treeDatas = []api.Data{data("Tree", con("Leaf", 0, ""), con("Node", 3, "left key right"), con("Tip", 1, "text"))}

// maker makes random patterns and values of a sort.
type maker struct {
	*rand.Rand
	vars []string // for variables of patterns
}

func (r *maker) pick(list []string) string { return list[r.Intn(len(list))] }

func (r *maker) variable() string { return r.pick(r.vars) }

func (r *maker) pat(sort string, deep int) api.Pat {
	switch n := r.Intn(20); {
	case n < 5:
		return api.Pat{Op: api.PVar, Name: r.variable()}
	case n < 7 || deep == 0:
		return api.Pat{Op: api.PWild}
	case n < 9:
		return api.Pat{Op: api.PAs, Name: r.variable(), Kids: []api.Pat{r.pat(sort, deep-1)}}
	case n < 11:
		return api.Pat{Op: api.PLazy, Kids: []api.Pat{r.pat(sort, deep-1)}}
	}
	switch sort {
	case "Int":
		return api.Pat{Op: api.PInt, N: r.Intn(3) - 1}
	case "Char":
		return api.Pat{Op: api.PChar, N: 'a' + r.Intn(3)}
	}
	cons := words(r.pick(sorts[sort]))
	var kids []api.Pat
	for _, field := range cons[1:] {
		kids = append(kids, r.pat(field, deep-1))
	}
	switch {
	case sort == "Pair" && r.Intn(2) == 0:
		return api.Pat{Op: api.PTuple, Kids: kids}
	case sort == "List" && r.Intn(2) == 0:
		return api.Pat{Op: api.PList, Kids: []api.Pat{r.pat("Int", deep-1), r.pat("Int", deep-1)}[:r.Intn(3)]}
	case sort == "Chars" && r.Intn(2) == 0:
		return api.Pat{Op: api.PString, Text: r.pick([]string{"", "a", "ab", "b"})}
	case cons[0] == "Node" && r.Intn(2) == 0:
		return r.record(kids)
	}
	return api.Pat{Op: api.PCon, Name: cons[0], Kids: kids}
}

// record returns a PRecord of the constructor Node with some of the patterns, in any order.
func (r *maker) record(kids []api.Pat) api.Pat {
	p := api.Pat{Op: api.PRecord, Name: "Node"}
	for _, i := range r.Perm(3)[:r.Intn(4)] {
		p.Names = append(p.Names, []string{"left", "key", "right"}[i])
		p.Kids = append(p.Kids, kids[i])
	}
	return p
}

func (r *maker) value(sort string, deep int) api.Value {
	switch n := r.Intn(20); {
	case deep == 0 || n == 0:
		return cut
	case n == 1:
		return bad
	}
	switch sort {
	case "Int":
		return vint(r.Intn(3) - 1)
	case "Char":
		return vchar('a' + r.Intn(3))
	}
	cons := words(r.pick(sorts[sort]))
	v := vcon(cons[0])
	for _, field := range cons[1:] {
		v.Kids = append(v.Kids, r.value(field, deep-1))
	}
	return v
}

// problem is a matrix with values. The body of row i is Ri applied to its variables and the free variables u and w; a row that falls through does so if its variable gi is False.
type problem struct {
	vars    []string
	sorts   []string
	rows    []api.Row
	values  []api.Value
	guarded map[int]bool // the rows that fall through, and whether their guards hold
}

func variables(pats []api.Pat) []string {
	var list []string
	for _, p := range pats {
		list = append(list, syntax.Binders(p)...)
	}
	slices.Sort(list)
	return slices.Compact(list)
}

func kvar(name string) api.Kernel { return api.Kernel{Op: api.KVar, Name: name} }

func apply(f api.Kernel, args ...string) api.Kernel {
	for _, arg := range args {
		f = api.Kernel{Op: api.KApp, Kids: []api.Kernel{f, kvar(arg)}}
	}
	return f
}

func (r *maker) problem() problem {
	p := problem{guarded: map[int]bool{}}
	for i := range r.Intn(4) {
		// Variables may be named like those of the patterns.
		p.vars = append(p.vars, []string{r.pick([]string{"a", "p"}), r.pick([]string{"b", "q"}), "c"}[i])
		p.sorts = append(p.sorts, r.pick([]string{"Bool", "List", "Pair", "Tree", "Chars", "Int", "Char"}))
		p.values = append(p.values, r.value(p.sorts[i], 5))
	}
	for i := range r.Intn(6) {
		row := api.Row{Body: api.Kernel{Op: api.KCon, Name: fmt.Sprint("R", i)}}
		for _, sort := range p.sorts {
			row.Pats = append(row.Pats, r.pat(sort, 3))
		}
		row.Body = apply(row.Body, slices.Concat(variables(row.Pats), []string{"u", "w"}, p.vars)...)
		if r.Intn(3) == 0 {
			row.Falls = true
			p.guarded[i] = r.Intn(2) == 0
			fail := kvar("fail")
			row.Body = api.Kernel{Op: api.KCase, Kids: []api.Kernel{kvar(fmt.Sprint("g", i))}, Alts: []api.KAlt{
				{Op: api.AltCon, Name: "True", Body: row.Body}, {Op: api.AltCon, Name: "False", Body: fail}, {Op: api.AltDefault, Body: fail}}}
		}
		p.rows = append(p.rows, row)
	}
	return p
}

// clonePats returns copies of the patterns of rows.
func clonePats(rows []api.Row) [][]api.Pat {
	var copier trees.Copier
	return trees.Map(rows, func(row api.Row) []api.Pat { return trees.Map(row.Pats, copier.Pat) })
}

// used returns the names that the supply avoids.
func (p problem) used() []string {
	used := slices.Concat(p.vars, []string{"u", "w"})
	for i := range p.rows {
		used = append(used, variables(p.rows[i].Pats)...)
		used = append(used, kernel.Free(p.rows[i].Body)...)
	}
	return used
}

// simple returns the simple form of a pattern, so that Matches knows the fields of labels.
func simple(p api.Pat) api.Pat {
	p = patterns.Simple(p)
	if p.Op == api.PRecord {
		entry, _ := patterns.NewTable(treeDatas).Find(p.Name)
		p = patterns.OfRecord(p, entry.Con)
	}
	p.Kids = slices.Clone(p.Kids)
	for i := range p.Kids {
		p.Kids[i] = simple(p.Kids[i])
	}
	return p
}

// otherwise is the last argument of Compile: its free variable u is not one of a pattern, w is.
func otherwise() api.Kernel { return apply(api.Kernel{Op: api.KCon, Name: "Other"}, "u", "w") }

// expected returns the value of the result by the definitions of the chapter; known is false if that hangs on a value that is not known.
func (p problem) expected(env map[string]api.Value) (result api.Value, known bool) {
	for i, row := range p.rows {
		bound := map[string]api.Value{}
		verdict := matches
		for j := range row.Pats {
			simplified := simple(row.Pats[j])
			values, ok, sure := Matches(simplified, p.values[j])
			if !sure {
				return api.Value{}, false
			}
			if !ok {
				verdict = fails
				break
			}
			for k, name := range syntax.Binders(simplified) {
				bound[name] = values[k]
			}
		}
		if holds, ok := p.guarded[i]; verdict == fails || ok && !holds {
			continue
		}
		result := vcon(fmt.Sprint("R", i))
		for _, name := range slices.Concat(variables(row.Pats), []string{"u", "w"}, p.vars) {
			v, ok := bound[name]
			if !ok {
				v = env[name]
			}
			result.Kids = append(result.Kids, v)
		}
		return result, true
	}
	return vcon("Other", env["u"], env["w"]), true
}

// env returns the values of the free variables.
func (p problem) env() map[string]api.Value {
	env := map[string]api.Value{"u": vint(77), "w": vint(88)}
	for i, v := range p.vars {
		env[v] = p.values[i]
	}
	for i, holds := range p.guarded {
		env[fmt.Sprint("g", i)] = vcon(map[bool]string{true: "True", false: "False"}[holds])
	}
	return env
}

// thunk is a value that is computed when it is needed.
type thunk func() api.Value

type scope map[string]thunk

func (s scope) with(name string, t thunk) scope {
	inner := scope{}
	for k, v := range s {
		inner[k] = v
	}
	inner[name] = t
	return inner
}

// eval evaluates an expression of the forms that the results have, constructors with all their fields. It panics if it examines a value that is not known.
func eval(e api.Kernel, s scope) api.Value {
	switch e.Op {
	case api.KVar:
		return s[e.Name]()
	case api.KCon:
		return vcon(e.Name)
	case api.KApp:
		if e.Kids[0].Op == api.KVar && e.Kids[0].Name == "raise" {
			return no
		}
		f := eval(e.Kids[0], s)
		f.Kids = append(f.Kids, evalPart(e.Kids[1], s))
		return f
	case api.KLet:
		for _, b := range e.Binds {
			outer := s
			s = s.with(b.Name, func() api.Value { return eval(b.Body, outer) })
		}
		return eval(e.Kids[0], s)
	case api.KCase:
		return evalCase(e, s)
	}
	panic("an unknown form")
}

// unsure is what eval panics with.
type unsure struct{}

// evalPart evaluates an expression whose value may be not known.
func evalPart(e api.Kernel, s scope) (v api.Value) {
	defer func() {
		if r := recover(); r != nil {
			if _, ok := r.(unsure); !ok {
				panic(r)
			}
			v = cut
		}
	}()
	return eval(e, s)
}

func evalCase(e api.Kernel, s scope) api.Value {
	v := eval(e.Kids[0], s)
	if v.Op == api.VBad || v.Op == api.VCut {
		panic(unsure{})
	}
	for _, a := range e.Alts {
		switch {
		case a.Op == api.AltInt && v.Op == api.VInt && v.N == a.N, a.Op == api.AltChar && v.Op == api.VChar && v.N == a.N, a.Op == api.AltDefault:
			return eval(a.Body, s)
		case a.Op == api.AltCon && v.Name == a.Name:
			for i, name := range a.Vars {
				s = s.with(name, func() api.Value { return v.Kids[i] })
			}
			return eval(a.Body, s)
		}
	}
	panic(fmt.Sprint("no alternative for ", v))
}

// evalResult evaluates the result of Compile.
func evalResult(e api.Kernel, env map[string]api.Value) (v api.Value, known bool) {
	defer func() {
		if r := recover(); r != nil {
			if _, ok := r.(unsure); !ok {
				panic(r)
			}
			known = false
		}
	}()
	s := scope{}
	for name, v := range env {
		s[name] = func() api.Value { return v }
	}
	return eval(e, s), true
}

// P14.1, P14.4: the meaning, and the form of the results.
func TestCompiledProblems(t *testing.T) {
	r := &maker{rand.New(rand.NewSource(14)), words("x y p q w")}
	known, chosen := 0, 0
	for range 12000 {
		p := r.problem()
		if len(slices.Compact(slices.Sorted(slices.Values(p.vars)))) != len(p.vars) {
			continue
		}
		before := clonePats(p.rows)
		used := p.used()
		e, fault := Compile(treeDatas, p.vars, p.rows, otherwise(), names.NewSupply(used...))
		if fault != (api.Fault{}) {
			t.Fatal(fault)
		}
		if code := kernel.Check(e); code != api.OK {
			t.Fatalf("error %d: %v", code, e)
		}
		checkApart(t, "Compile", e, p.rows)
		if !reflect.DeepEqual(before, clonePats(p.rows)) {
			t.Fatal("rows were changed")
		}
		p.checkForm(t, e, used)
		want, wantKnown := p.expected(p.env())
		got, gotKnown := evalResult(e, p.env())
		if gotKnown != wantKnown || wantKnown && !reflect.DeepEqual(normal(got), normal(want)) {
			t.Errorf("%s: %v %v, want %v %v", kernel.Print(e), got, gotKnown, want, wantKnown)
		}
		if wantKnown {
			known++
			p.checkFirst(t, want, &chosen)
		}
		if t.Failed() {
			for _, row := range p.rows {
				var list []string
				for _, p := range row.Pats {
					list = append(list, syntax.PrintPat(p))
				}
				t.Log(strings.Join(list, " ; "), row.Falls)
			}
			t.Fatal(p.vars, p.values)
		}
	}
	if known < 2000 || chosen < 300 {
		t.Errorf("only %d results are known, and %d are those of a first row", known, chosen)
	}
}

// checkFirst checks that the row that First returns is the one whose body is the result, if no row falls through.
func (p problem) checkFirst(t *testing.T, result api.Value, chosen *int) {
	if len(p.guarded) > 0 {
		return
	}
	rows := make([]api.Row, len(p.rows))
	for i := range rows {
		for _, p := range p.rows[i].Pats {
			rows[i].Pats = append(rows[i].Pats, simple(p))
		}
	}
	if i, ok := First(rows, p.values); ok {
		*chosen++
		if result.Name != fmt.Sprint("R", i) {
			t.Errorf("row %d, but the result %v", i, result)
		}
	} else if result.Name != "Other" {
		t.Errorf("no row, but the result %v", result)
	}
}

// former checks the form of a result.
type former struct {
	t      *testing.T
	p      problem
	old    map[string]bool // names that the supply avoids
	places map[string]int  // how often a body occurs
	bound  map[string]int  // how often a new variable is bound
}

func (p problem) checkForm(t *testing.T, e api.Kernel, used []string) {
	f := former{t, p, map[string]bool{}, map[string]int{}, map[string]int{}}
	for _, name := range used {
		f.old[name] = true
	}
	f.expr(e, append(slices.Clone(p.vars), "raise"))
	for name, n := range f.places {
		if n > 1 {
			t.Errorf("%s: the body %s occurs %d times", kernel.Print(e), name, n)
		}
	}
	allowed := append(slices.Clone(p.vars), "u", "w", "raise")
	for i := range p.rows {
		allowed = append(allowed, fmt.Sprint("g", i))
	}
	for _, name := range kernel.Free(e) {
		if !slices.Contains(allowed, name) {
			t.Errorf("%s: %s is free", kernel.Print(e), name)
		}
	}
}

// bodyName returns the constructor of a body, if the expression is one.
func bodyName(e api.Kernel) string {
	if e.Op == api.KCase && e.Kids[0].Op == api.KVar && strings.HasPrefix(e.Kids[0].Name, "g") {
		return bodyName(e.Alts[0].Body)
	}
	for e.Op == api.KApp {
		e = e.Kids[0]
	}
	if e.Op == api.KCon {
		return e.Name
	}
	return ""
}

// expr checks an expression in a scope of variables.
func (f former) expr(e api.Kernel, scope []string) {
	if name := bodyName(e); name != "" {
		f.places[name]++
		return
	}
	switch e.Op {
	case api.KVar:
		if !slices.Contains(scope, e.Name) {
			f.t.Errorf("%s is not in scope", e.Name)
		}
	case api.KApp:
		if kernel.Print(e) != "raise NoMatch" {
			f.t.Errorf("the application %s", kernel.Print(e))
		}
	case api.KLet:
		var names []string
		for _, b := range e.Binds {
			names = append(names, b.Name)
		}
		outside := slices.DeleteFunc(slices.Clone(scope), func(name string) bool { return slices.Contains(names, name) })
		for i, b := range e.Binds {
			f.binder(b.Name)
			f.expr(b.Body, append(outside, names[:i]...))
			if !b.Plain || len(b.Sigs) > 0 {
				f.t.Errorf("the binding of %s", b.Name)
			}
		}
		f.expr(e.Kids[0], append(outside, names...))
	case api.KCase:
		f.cases(e, scope)
	default:
		f.t.Errorf("the expression %s", kernel.Print(e))
	}
}

// binder checks a variable that is bound: a new one only once.
func (f former) binder(name string) {
	if f.bound[name]++; !f.old[name] && f.bound[name] > 1 {
		f.t.Errorf("%s is bound twice", name)
	}
	if _, _, made := names.Base(name); !made && !slices.ContainsFunc(f.p.rows, func(row api.Row) bool { return slices.Contains(variables(row.Pats), name) }) {
		f.t.Errorf("the variable %s is bound", name)
	}
}

func (f former) cases(e api.Kernel, scope []string) {
	if e.Kids[0].Op != api.KVar {
		f.t.Errorf("%s is examined", kernel.Print(e.Kids[0]))
	}
	f.expr(e.Kids[0], scope)
	table := patterns.NewTable(treeDatas)
	var families []*api.Data
	for _, a := range e.Alts {
		entry, ok := table.Find(a.Name)
		if ok {
			families = append(families, entry.Data)
			if len(entry.Con.Fields) != len(a.Vars) {
				f.t.Errorf("%s has %d variables", a.Name, len(a.Vars))
			}
		}
		for _, v := range a.Vars {
			f.binder(v)
			if f.old[v] {
				f.t.Errorf("the alternative binds %s", v)
			}
		}
		f.expr(a.Body, append(slices.Clone(scope), a.Vars...))
	}
	last := e.Alts[len(e.Alts)-1].Op == api.AltDefault
	switch {
	case len(families) == 0:
		if len(e.Alts) < 2 || !last {
			f.t.Errorf("a default alternative is missing in %s", kernel.Print(e))
		}
	case len(slices.Compact(families)) != 1 || last != (len(families) < len(families[0].Cons)):
		f.t.Errorf("the alternatives of %s", kernel.Print(e))
	}
}

// P14.1: alternatives stand in the order of the rows.
func TestOrderOfAlternatives(t *testing.T) {
	r := rand.New(rand.NewSource(3))
	for range 200 {
		var rows []api.Row
		var want []int
		for range 1 + r.Intn(20) {
			n := r.Intn(12)
			rows = append(rows, api.Row{Pats: []api.Pat{{Op: api.PInt, N: n}}, Body: kint(n)})
			if !slices.Contains(want, n) {
				want = append(want, n)
			}
		}
		e, _ := Compile(nil, words("v"), rows, kint(99), names.NewSupply("v"))
		var got []int
		for _, a := range e.Alts[:len(e.Alts)-1] {
			got = append(got, a.N)
		}
		if !slices.Equal(got, want) {
			t.Errorf("the order %v, want %v", got, want)
		}
	}
}

// P14.1: the size of the result does not explode.
func TestSizeOfResult(t *testing.T) {
	var rows []api.Row
	for i := range api.MaxString {
		p := api.Pat{Op: api.PString, Text: strings.Repeat("a", i%20) + fmt.Sprint(i)}
		rows = append(rows, api.Row{Pats: []api.Pat{p, {Op: api.PWild}}, Body: kint(i), Falls: true}, api.Row{Pats: []api.Pat{{Op: api.PWild}, p}, Body: kvar("fail"), Falls: true})
	}
	e, fault := Compile(nil, words("v w"), rows, kint(-1), names.NewSupply("v", "w", "fail"))
	if size := kernel.Size(e); fault != (api.Fault{}) || size > api.MaxTerm {
		t.Errorf("the size %d", size)
	}
}

// P14.1: more new names than the result needs are not taken, and the result hangs on nothing but the arguments.
func TestDeterminism(t *testing.T) {
	r := &maker{rand.New(rand.NewSource(15)), words("x y")}
	for range 300 {
		p := r.problem()
		p.vars = words("a b c")[:len(p.vars)]
		one, two := names.NewSupply(p.used()...), names.NewSupply(p.used()...)
		first, _ := Compile(treeDatas, p.vars, p.rows, otherwise(), one)
		second, _ := Compile(treeDatas, p.vars, p.rows, otherwise(), two)
		if !kernel.Same(first, second) || one.Fresh("v") != two.Fresh("v") || one.Fresh("fail") != two.Fresh("fail") {
			t.Fatal(kernel.Print(first), kernel.Print(second))
		}
	}
}
