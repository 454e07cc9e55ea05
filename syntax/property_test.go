package syntax

import (
	"math/rand"
	"reflect"
	"strings"
	"testing"

	"lazyc/api"
	"lazyc/lexer"
)

// checkUnits checks that a text consists of tokens with a single space between any two of them.
func checkUnits(t *testing.T, text string) {
	t.Helper()
	toks, fault := lexer.Lex(text)
	if fault != (api.Fault{}) {
		t.Fatalf("%q: %v", text, fault)
	}
	for i := range toks {
		toks[i].Line, toks[i].Col = 0, 0
	}
	again, code := lexer.Render(toks)
	if code != api.OK || again != text || strings.Contains(text, "\n") {
		t.Fatalf("%q has the tokens %q", text, again)
	}
}

// P6.1, P6.2: random trees are well formed, and have texts of separate units.
func TestRandomTexts(t *testing.T) {
	r := maker{rand.New(rand.NewSource(4))}
	for range 3000 {
		e, p, m := r.expr(4), r.pat(3), r.module()
		if CheckExpr(e) != api.OK || checkPat(p) != api.OK || Check(m) != api.OK {
			t.Fatalf("%v, %v or %v is not well formed", e, p, m)
		}
		checkUnits(t, PrintExpr(e))
		checkUnits(t, PrintPat(p))
		checkUnits(t, Print(m))
		for _, d := range m.Decls {
			checkUnits(t, PrintDecl(d))
			if !strings.Contains(Print(m), PrintDecl(d)) {
				t.Fatalf("%q is not in %q", PrintDecl(d), Print(m))
			}
		}
	}
}

// P6.1 to P6.5: any values are accepted, and none is changed.
func TestAnyTrees(t *testing.T) {
	r := maker{rand.New(rand.NewSource(5))}
	for range 300 {
		m := main(r.decl(), value("x", r.expr(2)))
		count := 0
		before := clone(m)
		eachChange(reflect.ValueOf(&m).Elem(), func() {
			if count++; count > 300 {
				return
			}
			code, text := Check(m), Print(m)
			if (code == api.OK) != (text != "") || strings.Contains(text, "\n") {
				t.Fatalf("%v: error %d, text %q", m, code, text)
			}
			e := m.Decls
			for _, d := range e {
				for _, c := range d.Clauses {
					checkAnyClause(t, c)
				}
			}
		})
		if !reflect.DeepEqual(m, before) {
			t.Fatal("a tree was changed")
		}
	}
}

func checkAnyClause(t *testing.T, c api.Clause) {
	t.Helper()
	for _, rhs := range c.Rhs {
		code, text := CheckExpr(rhs.Body), PrintExpr(rhs.Body)
		if (code == api.OK) != (text != "") || code != api.OK && len(Free(rhs.Body)) > 0 || !SameExpr(rhs.Body, rhs.Body) {
			t.Fatalf("%v: error %d, text %q", rhs.Body, code, text)
		}
	}
	for _, p := range c.Pats {
		if (checkPat(p) == api.OK) != (PrintPat(p) != "") {
			t.Fatalf("%v: error %d, text %q", p, checkPat(p), PrintPat(p))
		}
		Binders(p)
	}
}
