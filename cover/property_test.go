package cover

import (
	"math/rand"
	"reflect"
	"slices"
	"strings"
	"testing"

	"lazyc/api"
	"lazyc/base"
	"lazyc/match"
	"lazyc/patterns"
	"lazyc/syntax"
	"lazyc/trees"
)

// sorts has the constructors of each sort of values, with the sorts of their fields.
var sorts = map[string][]string{
	"Bool":  {"False", "True"},
	"Color": {"Red", "Green", "Blue"},
	"List":  {"[]", ": Bool List"},
	"Pair":  {"(,) Color Int"},
	"Opt":   {"None", "Some Pair Bool"},
}

func sortDatas() []api.Data {
	return []api.Data{data("Color", "Red | Green | Blue"), data("Opt", "None | Some pair flag")}
}

// maker makes random patterns of a sort.
type maker struct {
	*rand.Rand
}

func (r maker) pick(list ...string) string { return list[r.Intn(len(list))] }

func (r maker) pat(sort string, deep int) api.Pat {
	inner := func() []api.Pat { return []api.Pat{r.pat(sort, deep-1)} }
	switch n := r.Intn(20); {
	case n < 3:
		return api.Pat{Op: api.PVar, Name: r.pick("x", "y")}
	case n < 6 || deep == 0:
		return api.Pat{Op: api.PWild}
	case n < 7:
		return api.Pat{Op: api.PAs, Name: r.pick("x", "y"), Kids: inner()}
	case n < 8:
		return api.Pat{Op: api.PLazy, Kids: inner()}
	}
	switch sort {
	case "Int":
		return api.Pat{Op: api.PInt, N: r.Intn(3) - 1}
	case "Char":
		return api.Pat{Op: api.PChar, N: r.Intn(3)}
	}
	con := words(r.pick(sorts[sort]...))
	var kids []api.Pat
	for _, field := range con[1:] {
		kids = append(kids, r.pat(field, deep-1))
	}
	return r.written(con[0], kids)
}

// written returns the pattern of a constructor in one of its forms.
func (r maker) written(con string, kids []api.Pat) api.Pat {
	switch n := r.Intn(2); {
	case n == 0:
	case con == "(,)":
		return api.Pat{Op: api.PTuple, Kids: kids}
	case con == "[]":
		return api.Pat{Op: api.PList}
	case con == ":" && kids[1].Op == api.PList:
		return api.Pat{Op: api.PList, Kids: append(kids[:1:1], kids[1].Kids...)}
	case con == "Some":
		return api.Pat{Op: api.PRecord, Name: con, Names: words("flag pair"), Kids: []api.Pat{kids[1], kids[0]}}
	}
	return api.Pat{Op: api.PCon, Name: con, Kids: kids}
}

// problem is a consistent matrix.
type problem struct {
	sorts []string
	rows  [][]api.Pat
}

func (r maker) problem() problem {
	var p problem
	for range r.Intn(4) {
		p.sorts = append(p.sorts, r.pick("Bool", "Color", "List", "Pair", "Opt", "Int", "Char"))
	}
	for range r.Intn(8) {
		p.rows = append(p.rows, r.row(p.sorts))
	}
	return p
}

func (r maker) row(sorts []string) []api.Pat {
	return trees.Map(sorts, func(sort string) api.Pat { return r.pat(sort, 3) })
}

// simple returns the simple form of a pattern, with wildcards for open patterns.
func simple(p api.Pat) api.Pat {
	p = patterns.Simple(p)
	switch p.Op {
	case api.PVar, api.PLazy:
		return api.Pat{Op: api.PWild}
	case api.PAs:
		return simple(p.Kids[0])
	case api.PRecord:
		entry, _ := patterns.NewTable(sortDatas()).Find(p.Name)
		p = patterns.OfRecord(p, entry.Con)
	}
	p.Kids = trees.Map(p.Kids, simple)
	return p
}

func simpleRow(row []api.Pat) []api.Pat { return trees.Map(row, simple) }

// expected returns what Missing returns for simple rows, step by step as the chapter defines it.
func expected(rows [][]api.Pat, n int) ([]api.Pat, bool) {
	if n == 0 {
		return nil, len(rows) == 0
	}
	if i := slices.IndexFunc(rows, func(row []api.Pat) bool { return row[0].Op != api.PWild }); i >= 0 {
		for _, member := range membersOf(rows[i][0], rows) {
			list, ok := expected(remaining(rows, member), n-1+len(member.Kids))
			if ok {
				fields := len(member.Kids)
				member.Kids = slices.Clone(list[:fields])
				return append([]api.Pat{member}, list[fields:]...), true
			}
		}
		return nil, false
	}
	list, ok := expected(trees.Map(rows, func(row []api.Pat) []api.Pat { return row[1:] }), n-1)
	if !ok {
		return nil, false
	}
	return append([]api.Pat{{Op: api.PWild}}, list...), true
}

// membersOf returns the members of the family of a pattern, as patterns with wildcards for their fields.
func membersOf(p api.Pat, rows [][]api.Pat) []api.Pat {
	var list []api.Pat
	if p.Op == api.PCon {
		for _, d := range append(sortDatas(), base.Env().Datas...) {
			if slices.ContainsFunc(d.Cons, func(c api.Con) bool { return c.Name == p.Name }) {
				for _, c := range d.Cons {
					list = append(list, api.Pat{Op: api.PCon, Name: c.Name, Kids: slices.Repeat([]api.Pat{{Op: api.PWild}}, len(c.Fields))})
				}
			}
		}
		return list
	}
	var occurring []int
	for _, row := range rows {
		if row[0].Op == p.Op {
			occurring = append(occurring, row[0].N)
		}
	}
	free := 0
	for slices.Contains(occurring, free) {
		free++
	}
	slices.Sort(occurring)
	for _, n := range append([]int{free}, slices.Compact(occurring)...) {
		list = append(list, api.Pat{Op: p.Op, N: n})
	}
	return list
}

// remaining returns the rows for a member, with the patterns of its fields in place of the first one.
func remaining(rows [][]api.Pat, member api.Pat) [][]api.Pat {
	var rest [][]api.Pat
	for _, row := range rows {
		switch p := row[0]; {
		case p.Op == api.PWild:
			rest = append(rest, slices.Concat(member.Kids, row[1:]))
		case p.Name == member.Name && p.N == member.N:
			rest = append(rest, slices.Concat(p.Kids, row[1:]))
		}
	}
	return rest
}

// values returns the values of a sort, lists up to three elements; of integers and characters some.
func values(sort string, deep int) []api.Value {
	var list []api.Value
	if sort == "Int" || sort == "Char" {
		op := map[string]api.ValueOp{"Int": api.VInt, "Char": api.VChar}[sort]
		for n := range 4 {
			list = append(list, api.Value{Op: op, N: n})
		}
		if sort == "Int" {
			list = append(list, api.Value{Op: op, N: -1})
		}
		return list
	}
	for _, text := range sorts[sort] {
		con := words(text)
		if deep == 0 && len(con) > 1 {
			continue
		}
		for _, kids := range products(con[1:], deep-1) {
			list = append(list, api.Value{Op: api.VCon, Name: con[0], Kids: kids})
		}
	}
	return list
}

// products returns all lists of values of the sorts.
func products(sorts []string, deep int) [][]api.Value {
	if len(sorts) == 0 {
		return [][]api.Value{nil}
	}
	var all [][]api.Value
	rest := products(sorts[1:], deep)
	for _, first := range values(sorts[0], deep) {
		for _, list := range rest {
			all = append(all, append([]api.Value{first}, list...))
		}
	}
	return all
}

func matchesRow(row []api.Pat, list []api.Value) bool {
	_, ok := match.First([]api.Row{{Pats: row}}, list)
	return ok
}

// firstMatch returns the index of the first row that matches values, or the number of rows.
func firstMatch(rows [][]api.Pat, list []api.Value) int {
	for i, row := range rows {
		if matchesRow(row, list) {
			return i
		}
	}
	return len(rows)
}

// P15.1, P15.2: Missing returns what the chapter defines, and what it returns is right.
func TestMissingOfProblems(t *testing.T) {
	r := maker{rand.New(rand.NewSource(1))}
	found := map[bool]int{}
	for range 2500 {
		p := r.problem()
		before := copied(p.rows)
		simples := trees.Map(p.rows, simpleRow)
		got, ok, code := Missing(sortDatas(), p.rows, len(p.sorts))
		want, wantOk := expected(simples, len(p.sorts))
		if code != api.OK || ok != wantOk || printed(got) != printed(want) || !reflect.DeepEqual(before, p.rows) {
			t.Fatalf("Missing of %s: %s, %t, the error %d, want %s, %t", p, printed(got), ok, code, printed(want), wantOk)
		}
		found[ok]++
		if ok {
			if useful, code := Useful(sortDatas(), p.rows, got); !useful || code != api.OK {
				t.Errorf("%s: the missing patterns %s are not useful", p, printed(got))
			}
		}
		if useful, code := Useful(sortDatas(), p.rows, wildcards(len(p.sorts))); useful != ok || code != api.OK {
			t.Errorf("P15.4: %s: Missing returned %t, but wildcards are useful: %t", p, ok, useful)
		}
		for _, list := range sample(r, p.sorts, 200) {
			missed := firstMatch(simples, list) == len(p.rows)
			if missed && !ok || !missed && ok && matchesRow(got, list) {
				t.Fatalf("%s: the values %v, but Missing returned %s", p, list, printed(got))
			}
		}
	}
	if found[true] < 500 || found[false] < 500 {
		t.Errorf("patterns were missing %d times, and not missing %d times", found[true], found[false])
	}
}

// sample returns some of all lists of values of the sorts.
func sample(r maker, sorts []string, most int) [][]api.Value {
	all := trees.Map(sorts, func(sort string) []api.Value { return values(sort, 4) })
	var list [][]api.Value
	for range most {
		list = append(list, trees.Map(all, func(values []api.Value) api.Value { return values[r.Intn(len(values))] }))
	}
	return list
}

func wildcards(n int) []api.Pat { return slices.Repeat([]api.Pat{{Op: api.PWild}}, n) }

func copied(rows [][]api.Pat) [][]api.Pat {
	var copier trees.Copier
	return trees.Map(rows, func(row []api.Pat) []api.Pat { return trees.Map(row, copier.Pat) })
}

func (p problem) String() string { return strings.Join(trees.Map(p.rows, printed), " | ") }

// P15.1, P15.3: Useful and Redundant, compared with all values of small sorts.
func TestUsefulOfProblems(t *testing.T) {
	r := maker{rand.New(rand.NewSource(2))}
	found := map[bool]int{}
	for range 1500 {
		p := problem{sorts: [][]string{{"Opt"}, {"Bool", "Color"}, {"Int", "Bool"}, {"List"}, {"Pair", "Bool"}, {"Char", "Char"}}[r.Intn(6)]}
		for range r.Intn(9) {
			p.rows = append(p.rows, r.row(p.sorts))
		}
		pats := r.row(p.sorts)
		// The values are all that these patterns can tell apart: those of this depth, and a literal that does not occur.
		all := products(p.sorts, 4)
		simples := trees.Map(p.rows, simpleRow)
		want := slices.ContainsFunc(all, func(list []api.Value) bool {
			return matchesRow(simpleRow(pats), list) && firstMatch(simples, list) == len(p.rows)
		})
		got, code := Useful(sortDatas(), p.rows, pats)
		if got != want || code != api.OK {
			t.Fatalf("Useful of %s after %s: %t, the error %d", printed(pats), p, got, code)
		}
		found[got]++
		used := map[int]bool{}
		for _, list := range all {
			used[firstMatch(simples, list)] = true
		}
		redundant, code := Redundant(sortDatas(), p.rows)
		for i := range p.rows {
			if code != api.OK || slices.Contains(redundant, i) == used[i] {
				t.Fatalf("Redundant of %s: %v, the error %d, row %d is used: %t", p, redundant, code, i, used[i])
			}
		}
		p.checkRemoval(t, redundant, pats)
	}
	if found[true] < 300 || found[false] < 300 {
		t.Errorf("%d rows were useful, and %d not", found[true], found[false])
	}
}

// checkRemoval checks that rows that are never used do not matter.
func (p problem) checkRemoval(t *testing.T, redundant []int, pats []api.Pat) {
	t.Helper()
	var rest [][]api.Pat
	for i, row := range p.rows {
		if !slices.Contains(redundant, i) {
			rest = append(rest, row)
		}
	}
	one, _ := Useful(sortDatas(), p.rows, pats)
	two, _ := Useful(sortDatas(), rest, pats)
	_, three, _ := Missing(sortDatas(), p.rows, len(p.sorts))
	_, four, _ := Missing(sortDatas(), rest, len(p.sorts))
	if one != two || three != four {
		t.Errorf("without the rows %v of %s: %t, %t, with them: %t, %t", redundant, p, two, four, one, three)
	}
}

// Results are memory of their own.
func TestResultsAreNew(t *testing.T) {
	list := rows(t, "Node _ (Box Red) Leaf | Leaf")
	one, _, _ := Missing(testDatas(), list, 1)
	two, _, _ := Missing(testDatas(), list, 1)
	if printed(one) != "Node _ ( Box Red ) ( Node _ _ _ )" {
		t.Fatal(printed(one))
	}
	one[0].Kids[0].Op, one[0].Kids[1].Kids[0].Name = api.PVar, "Blue"
	one[0].Kids = append(one[0].Kids[:1], one[0].Kids...)
	three, _, _ := Missing(testDatas(), list, 1)
	if printed(two) != printed(three) || printed(list[0]) != "Node _ ( Box Red ) Leaf" {
		t.Errorf("%s, then %s", printed(two), printed(three))
	}
}

// The functions return for all arguments, whatever the datas and patterns are.
func TestTotality(t *testing.T) {
	r := maker{rand.New(rand.NewSource(3))}
	odd := []api.Data{data("A", "C . | C x y | C | D"), data("B", "D . . | E | Red | True"), {}, {Name: "A", Cons: []api.Con{{}, {Labels: words("x y")}, {Name: "F", Labels: words("x y"), Fields: make([]api.Type, 1)}, {Name: "G", Labels: words("x x"), Fields: make([]api.Type, 3)}}}}
	var random func(deep int) api.Pat
	random = func(deep int) api.Pat {
		con := []string{"C", "D . .", "E", "F x", "G x x x", "True", "Red", "", "() ."}[r.Intn(9)]
		p := api.Pat{Op: api.PCon, Name: words(con + " H")[0]}
		for range words(con)[min(len(words(con)), 1):] {
			p.Kids = append(p.Kids, api.Pat{Op: api.PWild})
			if deep > 0 {
				p.Kids[len(p.Kids)-1] = random(deep - 1)
			}
		}
		switch r.Intn(30) {
		case 0:
			p.Op, p.N = api.PatOp(r.Intn(15)), r.Intn(4)-1
		case 1:
			p.Op, p.Names = api.PRecord, []string{"x", "y", "x"}[:len(p.Kids)%4]
		}
		return p
	}
	accepted := 0
	for range 8000 {
		width := 1 + r.Intn(2)
		var list [][]api.Pat
		for range r.Intn(4) {
			list = append(list, []api.Pat{random(2), random(1), random(0)}[:width+r.Intn(20)/19])
		}
		_, code := Redundant(odd, list)
		if code == api.OK && len(list) > 1 {
			accepted++
		}
		Missing(odd, list, width-r.Intn(20)/18)
		Useful(odd, list, []api.Pat{random(2), random(2)}[:width])
	}
	if accepted < 50 {
		t.Errorf("only %d matrices were accepted", accepted)
	}
}

// Large matrices do not take long.
func TestLargeMatrices(t *testing.T) {
	const n = 60
	var diagonal [][]api.Pat
	last := make([]api.Pat, n)
	for i := range n {
		row := wildcards(n)
		row[i] = api.Pat{Op: api.PCon, Name: "True"}
		diagonal = append(diagonal, row)
		last[i] = api.Pat{Op: api.PCon, Name: "False"}
	}
	if got, ok, _ := Missing(nil, diagonal, n); !ok || !slices.EqualFunc(got, last, syntax.SamePat) {
		t.Errorf("Missing of a diagonal: %s", printed(got))
	}
	if _, ok, code := Missing(nil, append(diagonal, last), n); ok || code != api.OK {
		t.Errorf("Missing of a full diagonal: %t, the error %d", ok, code)
	}
	if got, _ := Redundant(nil, append(diagonal, last, wildcards(n))); !slices.Equal(got, []int{n + 1}) {
		t.Errorf("Redundant of a full diagonal: %v", got)
	}
	// The clauses of a derived order, and a list of strings.
	var big api.Data
	var order, texts [][]api.Pat
	for i := range 60 {
		name := "C" + strings.Repeat("c", i)
		big.Cons = append(big.Cons, api.Con{Name: name})
		p, text := api.Pat{Op: api.PCon, Name: name}, api.Pat{Op: api.PString, Text: strings.Repeat(name, 3)}
		order = append(order, []api.Pat{p, p}, []api.Pat{p, {Op: api.PWild}}, []api.Pat{{Op: api.PWild}, p})
		texts = append(texts, []api.Pat{text})
	}
	if got, code := Redundant([]api.Data{big}, order); code != api.OK || !slices.Equal(got, []int{178, 179}) {
		t.Errorf("Redundant of an order: %v, the error %d", got, code)
	}
	if got, code := Redundant(nil, append(texts, texts[7])); code != api.OK || !slices.Equal(got, []int{60}) {
		t.Errorf("Redundant of texts: %v, the error %d", got, code)
	}
	// A pattern at the limits.
	long := api.Pat{Op: api.PString, Text: strings.Repeat("x", api.MaxString)}
	for range 97 {
		long = api.Pat{Op: api.PList, Kids: append(slices.Repeat([]api.Pat{{Op: api.PWild}}, api.MaxString-1), long)}
	}
	if got, ok, code := Missing(nil, [][]api.Pat{{long}}, 1); !ok || code != api.OK || printed(got) != "[]" {
		t.Errorf("Missing of a long pattern: %s, the error %d", printed(got), code)
	}
}
