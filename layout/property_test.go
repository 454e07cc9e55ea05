package layout

import (
	"math/rand"
	"slices"
	"strings"
	"testing"

	"lazyc/api"
	"lazyc/lexer"
)

// randomTokens returns tokens of all kinds that matter to the layout. Their lines never decrease, unless odd is set.
func randomTokens(random *rand.Rand, kinds []api.Token, odd bool) []api.Token {
	toks := make([]api.Token, random.Intn(14))
	line, col := 1, 1+random.Intn(4)
	for i := range toks {
		toks[i] = kinds[random.Intn(len(kinds))]
		toks[i].Line, toks[i].Col = line, col
		if odd && random.Intn(4) == 0 {
			toks[i].Line, toks[i].Col = random.Intn(9)-3, random.Intn(9)-3
		}
		col += len(toks[i].Text) + 1
		if random.Intn(3) == 0 {
			line, col = line+1, 1+random.Intn(6)
		}
	}
	return toks
}

// checkResult checks what holds for each result of Insert.
func checkResult(t *testing.T, toks, got []api.Token) {
	t.Helper()
	if !slices.Equal(Strip(got), toks) {
		t.Errorf("P3.1: %v became %v", toks, got)
	}
	again, fault := Insert(Explicit(got))
	if fault != (api.Fault{}) || !slices.Equal(again, Explicit(got)) {
		t.Errorf("P3.2: %v: %s became %s %v", toks, show(got), show(again), fault)
	}
	open := 0
	for _, tok := range got {
		if !tok.Auto {
			continue
		}
		text := tok.Text
		open += nesting(text)
		tok.Text = ""
		if open < 0 || !strings.Contains("{;}", text) || tok != (api.Token{Op: api.TokSpecial, Auto: true}) {
			t.Errorf("P3.3: %v: %s", toks, show(got))
		}
	}
	if open != 0 {
		t.Errorf("P3.3: %v: %s", toks, show(got))
	}
	if Depth(got) < Depth(toks) {
		t.Errorf("P3.5: %v: %s", toks, show(got))
	}
}

// checkIndented checks that the source, if there is one, has the given tokens, and reports whether there is one.
func checkIndented(t *testing.T, toks []api.Token) bool {
	t.Helper()
	src, code := Indent(toks)
	if code != api.OK {
		if code != api.ErrForm || src != "" {
			t.Errorf("P3.4: %v: %q %v", toks, src, code)
		}
		return false
	}
	again, fault := lexer.Lex(src)
	if fault != (api.Fault{}) {
		t.Errorf("P3.4: %q: %v", src, fault)
	}
	got, fault := Insert(again)
	if fault != (api.Fault{}) || !lexer.Same(got, toks) {
		t.Errorf("P3.4: %v: %q has %s %v", toks, src, show(got), fault)
	}
	return true
}

// P3.1 to P3.5, for any tokens.
func TestAnyTokens(t *testing.T) {
	random := rand.New(rand.NewSource(1))
	kinds := lex(t, "x y z = = ( ) [ ] { } , , ; ; let let do of case if then else in in where module | +")
	accepted, indented := 0, 0
	for i := range 100000 {
		toks := randomTokens(random, kinds, i%2 == 0)
		before := slices.Clone(toks)
		got, fault := Insert(toks)
		if !slices.Equal(toks, before) {
			t.Fatal("Insert changes its argument")
		}
		if fault != (api.Fault{}) {
			at := slices.IndexFunc(toks, func(tok api.Token) bool {
				return fault == api.Fault{Code: api.ErrLayout, Name: tok.Text, Line: tok.Line, Col: tok.Col}
			})
			if at < 0 || len(got) != 0 {
				t.Fatalf("%v: %v %v", toks, got, fault)
			}
			checkIndented(t, toks)
			continue
		}
		accepted++
		checkResult(t, toks, got)
		if checkIndented(t, got) {
			indented++
		}
		checkIndented(t, toks)
		if t.Failed() {
			return
		}
	}
	if accepted < 10000 || indented < 1000 {
		t.Error("only", accepted, "accepted and", indented, "indented")
	}
}

// randomItems writes a block with explicit braces, each of whose items has a meaning in the language.
func randomItems(random *rand.Rand, depth int) string {
	items := make([]string, 1+random.Intn(3))
	for i := range items {
		items[i] = "f x = " + randomExpression(random, depth)
		if depth > 0 && random.Intn(4) == 0 {
			items[i] += " where " + randomItems(random, depth-1)
		}
	}
	return "{ " + strings.Join(items, " ; ") + " }"
}

func randomExpression(random *rand.Rand, depth int) string {
	if depth == 0 {
		return "x"
	}
	inner := func() string { return randomExpression(random, depth-1) }
	switch random.Intn(8) {
	case 0:
		return "let " + randomItems(random, depth-1) + " in " + inner()
	case 1:
		return "do { x <- " + inner() + " ; let " + randomItems(random, depth-1) + " ; " + inner() + " }"
	case 2:
		return "case " + inner() + " of { A -> " + inner() + " ; B -> " + inner() + " }"
	case 3:
		return "if " + inner() + " then " + inner() + " else " + inner()
	case 4:
		return "( " + inner() + " , " + inner() + " )"
	case 5:
		return "[ " + inner() + " | x <- " + inner() + " ]"
	case 6:
		return "r { a = " + inner() + " }"
	}
	return "f ( " + inner() + " )"
}

// P3.2, P3.4: programs with explicit braces are written with layout, which implies the same blocks.
func TestPrograms(t *testing.T) {
	random := rand.New(rand.NewSource(2))
	for range 3000 {
		program := randomItems(random, 4)
		if random.Intn(2) == 0 {
			program = "module M where " + program
		}
		toks := lex(t, program)
		if got, fault := Insert(toks); fault != (api.Fault{}) || !slices.Equal(got, toks) {
			t.Fatalf("%q: %s %v", program, show(got), fault)
		}
		if !checkIndented(t, toks) {
			src, _ := lexer.Render(toks)
			t.Fatalf("not indented: %s", src)
		}
	}
}
