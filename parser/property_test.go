package parser

import (
	"math/rand"
	"reflect"
	"strings"
	"testing"

	"lazyc/api"
	"lazyc/layout"
	"lazyc/lexer"
	"lazyc/syntax"
)

// sources calls check with the texts of random derivations.
func sources(seed int64, start string, budget, number int, check func(src string)) {
	g := readGrammar()
	r := rand.New(rand.NewSource(seed))
	for range number {
		check(textOfAll(g.derive(r, start, r.Intn(budget))))
	}
}

// checkText checks that the text of what is read is read again, to the same text, and to the same tree, possibly with further parentheses. It reports whether the source was read at all.
func checkText[T any](t *testing.T, src string, read func(string) (T, api.Fault), print func(T) string, same func(a, b T) bool) bool {
	t.Helper()
	tree, fault := read(src)
	if fault != (api.Fault{}) {
		return false
	}
	text := print(tree)
	again, fault := read(text)
	if fault != (api.Fault{}) || print(again) != text {
		t.Fatalf("%q has the text %q, and that %v, %q", src, text, fault, print(again))
	}
	if parens(&tree) > parens(&again) || !same(tree, again) {
		t.Fatalf("%q is not as its text %q", src, text)
	}
	return true
}

// parens removes all parentheses from a tree, and returns their number.
func parens(tree any) int { return removeParens(reflect.ValueOf(tree).Elem()) }

func removeParens(v reflect.Value) int {
	number := 0
	switch v.Kind() {
	case reflect.Slice:
		for i := range v.Len() {
			number += removeParens(v.Index(i))
		}
	case reflect.Struct:
		for {
			switch inner := v.Interface().(type) {
			case api.Expr:
				if inner.Op == api.EParen {
					number++
					v.Set(reflect.ValueOf(inner.Kids[0]))
					continue
				}
			case api.Pat:
				if inner.Op == api.PParen {
					number++
					v.Set(reflect.ValueOf(inner.Kids[0]))
					continue
				}
			}
			break
		}
		for i := range v.NumField() {
			number += removeParens(v.Field(i))
		}
	}
	return number
}

// P7.2: what Print prints is read as it was.
func TestRoundTrips(t *testing.T) {
	good := 0
	see := func(ok bool) {
		if ok {
			good++
		}
	}
	sources(2, "module", 60, 3000, func(src string) { see(checkText(t, src, Module, syntax.Print, syntax.Same)) })
	sources(3, "exp", 40, 2000, func(src string) { see(checkText(t, src, Expr, syntax.PrintExpr, syntax.SameExpr)) })
	sources(4, "pat", 20, 2000, func(src string) { see(checkText(t, src, Pat, syntax.PrintPat, syntax.SamePat)) })
	if good < 3000 {
		t.Errorf("only %d sources are well formed", good)
	}
}

// P7.2: where Print writes further parentheses, the text is the same the next time.
func TestFurtherParens(t *testing.T) {
	for _, c := range []struct{ src, want string }{
		{`\x -> x :: T + y`, `( \ x -> x :: T ) + y`},
		{`if a then b else c :: T :: U`, `( if a then b else c :: T ) :: U`},
		{`(x + \y -> y :: T + z *)`, `( x + ( \ y -> y :: T ) + z * )`},
	} {
		e, fault := Expr(c.src)
		text := syntax.PrintExpr(e)
		again, _ := Expr(text)
		if fault != (api.Fault{}) || text != c.want || syntax.SameExpr(e, again) || syntax.PrintExpr(again) != text {
			t.Errorf("%q: %v, %q, want %q", c.src, fault, text, c.want)
		}
	}
}

// P7.3: a source with all braces and semicolons gives the same module.
func TestExplicitBraces(t *testing.T) {
	const body = "f x = case x of\n  A -> do\n    y <- g\n    let z = 1\n        w = 2\n    h z\n   where h = 1\n  _ -> 2\n" +
		"class C a where\n  m :: a\n  m = let a = 1 in a\ndata T = A\n  | B\ng = if a\n  then [x | let y = 1, x] else (case x of A -> 1, 2)\n"
	for _, src := range []string{body, "module M (f) where\nimport N\n" + body, "module M where\n  " + strings.ReplaceAll(body, "\n", "\n  "), ""} {
		toks, fault := tokensOf(src)
		if fault != (api.Fault{}) {
			t.Fatal(fault)
		}
		explicit, code := lexer.Render(layout.Explicit(toks))
		m, fault := Module(src)
		n, other := Module(explicit)
		if code != api.OK || fault != (api.Fault{}) || other != (api.Fault{}) || !syntax.Same(m, n) {
			t.Errorf("%q: %v, %q: %v", src, fault, explicit, other)
		}
	}
}

// P7.3, P7.4: whatever is written with line breaks, the explicit source has the same result, and the fault does not depend on what follows.
func TestRandomLayouts(t *testing.T) {
	r := rand.New(rand.NewSource(5))
	faults := 0
	sources(6, "module", 50, 3000, func(src string) {
		units := strings.Fields(src)
		for range 1 + r.Intn(2) {
			i := r.Intn(len(units))
			units[i] = units[r.Intn(len(units))]
		}
		var b strings.Builder
		for _, unit := range units {
			if unit != "{" && unit != "}" || r.Intn(2) == 0 {
				b.WriteString(unit)
			}
			b.WriteString([]string{" ", " ", " ", "\n ", "\n  "}[r.Intn(5)])
		}
		faults += checkLayout(t, b.String())
	})
	if faults < 100 {
		t.Errorf("only %d faults", faults)
	}
}

// checkLayout compares a source to the explicit one, and to those in which other tokens follow the fault. It returns the number of faults.
func checkLayout(t *testing.T, src string) int {
	t.Helper()
	toks, fault := tokensOf(src)
	if fault != (api.Fault{}) {
		return 0
	}
	m, fault := Module(src)
	explicit, code := lexer.Render(layout.Explicit(toks))
	n, other := Module(explicit)
	if code != api.OK || fault.Code != other.Code || fault.Name != other.Name || !syntax.Same(m, n) {
		t.Fatalf("%q: %v, %q: %v", src, fault, explicit, other)
	}
	if fault.Code != api.ErrSyntax {
		return 0
	}
	p := &parser{toks: toks}
	attempt(p, p.wholeModule)
	for _, end := range [][]api.Token{nil, {{Op: api.TokSym, Text: "="}}, {{Op: api.TokVar, Text: "x"}, {Op: api.TokSpecial, Text: "}", Auto: true}}} {
		q := &parser{toks: append(toks[:p.far+1:p.far+1], end...)}
		if _, ok := attempt(q, q.wholeModule); ok || q.far != p.far {
			t.Fatalf("%q: %v with %v, token %d, want %d", src, fault, end, q.far, p.far)
		}
	}
	return 1
}

func (p *parser) wholeModule() api.Module {
	m := p.module()
	p.require(p.at == len(p.toks))
	return m
}

// P7.1: any source is accepted, however deep.
func TestAnySource(t *testing.T) {
	units := []string{"(", "[", "{", "~ ", "\\x->", "do {", "[x|", "do (", "x@", "- ", "f x = ", "a -> ", "x::", "(x ", "(x + ", "case ", "if x then ",
		"let {x=", "C {a=", "data T = ", "`", "(,", "import M;", "infix +,", "class C =>", "(C a,", "x\n", "where "}
	for _, unit := range units {
		src := repeated(unit, min(16000, 65000/len(unit)))
		for _, read := range []func(string) api.Fault{faultOf(Module), faultOf(Expr), faultOf(Pat), faultOf(Decls)} {
			for _, start := range []string{"", "f = ", "f :: "} {
				if fault := read(start + src); fault.Code == api.OK {
					t.Errorf("%q: there is no fault", start+unit)
				}
			}
		}
	}
}

func faultOf[T any](read func(string) (T, api.Fault)) func(string) api.Fault {
	return func(src string) api.Fault {
		_, fault := read(src)
		return fault
	}
}

// P7.1: a result shares no memory with another one, or within itself.
func TestNewMemory(t *testing.T) {
	const src = "data T = A { x, y :: [a] }"
	m, _ := Module(src)
	fields := m.Decls[0].Cons[0].Fields
	fields[0].Kids[1].Name = "changed"
	if n, _ := Module(src); fields[1].Kids[1].Name != "a" || syntax.Same(m, n) {
		t.Error("labels with one type share it")
	}
}
