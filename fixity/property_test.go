package fixity

import (
	"fmt"
	"math/rand"
	"reflect"
	"slices"
	"strings"
	"testing"

	"lazyc/api"
	"lazyc/parser"
	"lazyc/syntax"
)

// derivations finds the trees of a sequence by the grammar of operators: an operand of an operator with precedence n has only operators with greater ones, and, on its associative side, with the same one.
type derivations struct {
	table []api.Fixity
	ops   []string
	minus []bool
}

// all returns the trees of the operands from i to j, all of whose operators outside of parentheses have at least the precedence.
func (d derivations) all(least, i, j int) []string {
	if least > 9 {
		if i == j && !d.minus[i] {
			return []string{fmt.Sprintf("x%d", i)}
		}
		return nil
	}
	trees := d.all(least+1, i, j)
	for op := i; op < j; op++ {
		f := Find(d.table, d.ops[op])
		if f.Prec != least {
			continue
		}
		lefts, rights := d.all(least+1, i, op), d.all(least+1, op+1, j)
		if f.Assoc == api.AssocLeft {
			lefts = append(lefts, d.chain(least, f.Assoc, i, op)...)
		}
		if f.Assoc == api.AssocRight {
			rights = append(rights, d.chain(least, f.Assoc, op+1, j)...)
		}
		for _, left := range lefts {
			for _, right := range rights {
				trees = append(trees, "["+left+" "+f.Name+" "+right+"]")
			}
		}
	}
	if least == 6 {
		trees = append(trees, d.negation(i, j)...)
	}
	return trees
}

// chain returns the trees whose last operator has the precedence and the associativity; a negation counts as left associative.
func (d derivations) chain(prec int, assoc api.Assoc, i, j int) []string {
	var trees []string
	higher := d.all(prec+1, i, j)
	for _, tree := range d.all(prec, i, j) {
		last := topOperator(tree)
		negation := strings.HasPrefix(tree, "[- ")
		if !slices.Contains(higher, tree) && (negation && assoc == api.AssocLeft || !negation && Find(d.table, last).Assoc == assoc) {
			trees = append(trees, tree)
		}
	}
	return trees
}

// negation returns the trees that are negations as a whole.
func (d derivations) negation(i, j int) []string {
	if !d.minus[i] {
		return nil
	}
	minus := slices.Clone(d.minus)
	minus[i] = false
	var trees []string
	for _, tree := range (derivations{d.table, d.ops, minus}).all(7, i, j) {
		trees = append(trees, "[- "+tree+"]")
	}
	return trees
}

// topOperator returns the operator outside of all inner brackets.
func topOperator(tree string) string {
	depth := 0
	for _, unit := range strings.Fields(strings.NewReplacer("[", "[ ", "]", " ]").Replace(tree)) {
		switch {
		case unit == "[":
			depth++
		case unit == "]":
			depth--
		case depth == 1 && unit[0] != 'x':
			return unit
		}
	}
	return ""
}

// random returns a sequence of numbered operands.
func (d *derivations) random(r *rand.Rand, operands int) api.Expr {
	e := api.Expr{Op: api.EInfix}
	for i := range operands {
		e.Kids = append(e.Kids, api.Expr{Op: api.EVar, Name: fmt.Sprintf("x%d", i)})
		e.Neg = append(e.Neg, r.Intn(5) == 0 || operands == 1)
		if i > 0 {
			e.Names = append(e.Names, d.table[r.Intn(len(d.table))].Name)
		}
	}
	d.ops, d.minus = e.Names, e.Neg
	return e
}

// P8.3: the tree is the only one that the grammar permits, and there is a fault if there is none, at the first operator that makes it so.
func TestAgainstGrammar(t *testing.T) {
	r := rand.New(rand.NewSource(1))
	good := 0
	for range 4000 {
		d := derivations{table: table("l6 + l6 - r6 <> n6 % l7 * r7 ^ n4 == r4 ++ l4 ~~ r9 .")}
		r.Shuffle(len(d.table), func(i, j int) { d.table[i], d.table[j] = d.table[j], d.table[i] })
		d.table = d.table[:2+r.Intn(4)]
		e := d.random(r, 1+r.Intn(5))
		got, fault := Expr(d.table, e)
		trees := d.all(0, 0, len(e.Kids)-1)
		if len(trees) == 1 && fault == (api.Fault{}) && brief(got) == trees[0] {
			good++
			continue
		}
		if len(trees) > 0 || fault != (api.Fault{Code: api.ErrFixity, Name: d.firstFault()}) {
			t.Fatalf("%v %v: %v, %s, want one of %v", syntax.PrintExpr(e), d.table, fault, brief(got), trees)
		}
	}
	if good < 1000 {
		t.Errorf("only %d sequences can be resolved", good)
	}
}

// firstFault returns the last operator or minus sign of the shortest beginning that has no tree.
func (d derivations) firstFault() string {
	for i := range d.minus {
		if len(d.all(0, 0, i)) > 0 {
			continue
		}
		minus := slices.Clone(d.minus)
		minus[i] = false
		if d.minus[i] && len((derivations{d.table, d.ops, minus}).all(0, 0, i)) > 0 {
			return "-"
		}
		return d.ops[i-1]
	}
	return ""
}

// P8.3: an operator goes before a section's operand exactly if it does so with one more operand.
func TestSectionsAgainstExpr(t *testing.T) {
	r := rand.New(rand.NewSource(2))
	for range 3000 {
		d := derivations{table: table("l6 + r6 <> n6 % l7 * n4 == r4 ++")}
		e := d.random(r, 2+r.Intn(3))
		left := r.Intn(2) == 0
		op, part, missing := e.Names[0], e, len(e.Kids)-1
		section := api.Expr{Op: api.ERight}
		if left {
			op, section.Op = e.Names[len(e.Names)-1], api.ELeft
			part = api.Expr{Op: e.Op, Kids: e.Kids[:missing], Names: e.Names[:missing-1], Neg: e.Neg[:missing]}
			e.Neg[missing] = false
		} else {
			part = api.Expr{Op: e.Op, Kids: e.Kids[1:], Names: e.Names[1:], Neg: e.Neg[1:]}
			e.Neg[0] = false
		}
		if len(part.Kids) == 1 && !part.Neg[0] {
			part = part.Kids[0]
		}
		section.Name, section.Kids = op, []api.Expr{part}
		_, own := Expr(d.table, part)
		whole, other := Expr(d.table, e)
		fits := other == (api.Fault{}) && whole.Op == api.EApp && whole.Kids[0].Kids[0].Name == op &&
			(left && whole.Kids[1].Name == fmt.Sprintf("x%d", missing) || !left && whole.Kids[0].Kids[1].Name == "x0")
		want := own
		if own == (api.Fault{}) && !fits {
			want = mixed(op)
		}
		if _, fault := Expr(d.table, section); fault != want {
			t.Fatalf("%q: %v, want %v", syntax.PrintExpr(section), fault, want)
		}
	}
}

// randomSource returns an expression with many operators and parentheses.
func randomSource(r *rand.Rand, depth int) string {
	inner := func() string { return randomSource(r, depth-1) }
	one := func(list ...string) string { return list[r.Intn(len(list))] }
	if depth == 0 {
		return one("x", "y", "1", "C", "(+)")
	}
	op := func() string { return one("+", "*", "==", "++", ":", "`f`", "$") }
	pat := func() string { return one("x", "(y : z)", "(x)", "C", "(x :* (y :* z))") }
	switch r.Intn(12) {
	case 0:
		return "(- " + inner() + ")"
	case 1:
		return "(" + inner() + " " + op() + ")"
	case 2:
		return "(" + one("+", "*", ":", "`f`") + " " + inner() + ")"
	case 3:
		return "(\\" + pat() + " -> " + inner() + ")"
	case 4:
		return "(let { f " + pat() + " | " + inner() + " = " + inner() + " where { z = " + inner() + " } } in " + inner() + ")"
	case 5:
		return "case " + inner() + " of { " + pat() + " -> " + inner() + " }"
	case 6:
		return "do { " + pat() + " <- " + inner() + " ; " + inner() + " }"
	case 7:
		return "[" + inner() + " | " + inner() + "]"
	case 8:
		return "(" + inner() + ", " + inner() + ")"
	case 9:
		return "(" + inner() + ")"
	}
	return "(" + inner() + " " + op() + " " + inner() + " " + op() + " " + inner() + ")"
}

// leaves returns the names and numbers of a text in their order, without operators.
func leaves(text string) string {
	var list []string
	for _, unit := range strings.Fields(text) {
		if strings.ContainsAny(unit, "xyz1Cf") {
			list = append(list, unit)
		}
	}
	return strings.Join(list, " ")
}

// P8.6: results are resolved, and stay as they are; their texts mean the same; operands keep their order; arguments stay as they are.
func TestResults(t *testing.T) {
	r := rand.New(rand.NewSource(3))
	list := table(usualTable)
	good := 0
	for range 4000 {
		src := randomSource(r, 1+r.Intn(3))
		e := expr(t, src)
		got, fault := Expr(list, e)
		if !syntax.SameExpr(e, expr(t, src)) {
			t.Fatalf("%q was changed", src)
		}
		if fault != (api.Fault{}) {
			continue
		}
		good++
		text := syntax.PrintExpr(got)
		again, one := Expr(list, got)
		parsed, two := parser.Expr(text)
		back, three := Expr(list, parsed)
		if !Resolved(got) || one != (api.Fault{}) || !syntax.SameExpr(again, got) {
			t.Fatalf("%q: %q is changed to %q: %v", src, text, syntax.PrintExpr(again), one)
		}
		if two != (api.Fault{}) || three != (api.Fault{}) || !syntax.SameExpr(back, got) {
			t.Fatalf("%q: %q is read as %q: %v, %v", src, text, syntax.PrintExpr(back), two, three)
		}
		if !strings.Contains(src, "`f`") && leaves(text) != leaves(tokens(src)) {
			t.Fatalf("%q has the operands of %q", text, src)
		}
		m := api.Module{Name: "M", All: true, Decls: []api.Decl{{Op: api.DFun, Name: "v", Clauses: []api.Clause{{Rhs: []api.Rhs{{Body: e}}}}}}}
		whole, fault := Module(list, m)
		if fault == (api.Fault{}) && !syntax.SameExpr(whole.Decls[0].Clauses[0].Rhs[0].Body, got) {
			t.Fatalf("%q is resolved in another way in a module", src)
		}
	}
	if good < 500 {
		t.Errorf("only %d expressions can be resolved", good)
	}
}

// tokens returns a source with spaces around brackets.
func tokens(src string) string {
	return strings.NewReplacer("(", " ( ", ")", " ) ", ",", " , ", "[", " [ ", "]", " ] ", "\\", " \\ ").Replace(src)
}

// eachSlice calls visit with the address of the first element of every slice of a value.
func eachSlice(v reflect.Value, visit func(uintptr)) {
	switch v.Kind() {
	case reflect.Slice:
		if v.Len() > 0 {
			visit(v.Pointer())
		}
		for i := range v.Len() {
			eachSlice(v.Index(i), visit)
		}
	case reflect.Struct:
		for i := range v.NumField() {
			eachSlice(v.Field(i), visit)
		}
	}
}

// P8.3, P8.4: results share no memory with arguments.
func TestNewMemory(t *testing.T) {
	const src = "module M ( T ( A ) ) where { import N ( U ( B ) ) ; data T a = A { x :: [a] } deriving ( Eq ) ; f :: ( C a ) => [a] ; infixl 3 `f` ; f (x : y) z | (g) = do { (a) <- b ; let { h = 1 } ; d } where { w = [1 :: C a => T a] } ; " +
		"(x, [y]) = C { z = (1) } { z = \\ D { a = b } -> c } ; class C a where { m, n :: [a] } ; instance ( D a ) => C [a] where { m = case a of { ~b | c -> (1 + 2 *) } } ; z = [a | b] }"
	source := func() api.Module {
		m := module(t, src)
		m.Decls[3].Clauses[0].Rhs[0].Body.Names = []string{"M.>>=", "M.>>"}
		return m
	}
	m := source()
	used := map[uintptr]bool{}
	eachSlice(reflect.ValueOf(m), func(at uintptr) { used[at] = true })
	imported := table("l6 + l7 *")
	_, fault := Module(imported, m)
	if fault != (api.Fault{Code: api.ErrFixity, Name: "*"}) {
		t.Fatal(fault)
	}
	got, fault := Module(table("l7 + l6 *"), m)
	if fault != (api.Fault{}) {
		t.Fatal(fault)
	}
	eachSlice(reflect.ValueOf(got), func(at uintptr) {
		if used[at] {
			t.Error("a slice of the result is one of the argument, or occurs twice")
		}
		used[at] = true
	})
	if !syntax.Same(m, source()) {
		t.Error("the argument was changed")
	}
	list, _ := Table(imported, module(t, ""))
	if list[0].Name = "changed"; imported[0].Name != "+" {
		t.Error("the table is the argument")
	}
}
