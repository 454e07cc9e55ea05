package lexer

import (
	"math/rand"
	"strings"
	"testing"

	"lazyc/api"
)

// randomToken returns a printable token of any class, without a position.
func randomToken(random *rand.Rand) api.Token {
	pick := func(list string) string {
		words := strings.Fields(list)
		return words[random.Intn(len(words))]
	}
	qual := ""
	if random.Intn(3) == 0 {
		qual = pick("M Mod1 A' Where")
	}
	switch op := api.TokenOp(random.Intn(10) + 1); op {
	case api.TokVar:
		return named(op, qual, pick("x _x x' where' a1 as_"))
	case api.TokCon:
		return named(op, qual, pick("X M Of A_'"))
	case api.TokOp:
		return named(op, qual, pick("+ - . ... --> |-- $ == \\\\"))
	case api.TokConOp:
		return named(op, qual, pick(": :+ ::: :-- :."))
	case api.TokInt:
		return integer(random.Intn(1000))
	case api.TokChar:
		return character(random.Intn(256))
	case api.TokString:
		contents := make([]byte, random.Intn(8))
		random.Read(contents)
		return text(string(contents))
	case api.TokSpecial:
		return special(string(specials[random.Intn(len(specials))]))
	case api.TokWord:
		return word(pick("as case where _ of let"))
	default:
		return symbol(pick(".. :: = \\ | <- -> @ ~ =>"))
	}
}

// P2.5: Lex inverts Render, wherever the tokens are.
func TestLexInvertsRender(t *testing.T) {
	random := rand.New(rand.NewSource(1))
	for range 3000 {
		toks := make([]api.Token, random.Intn(20))
		for i := range toks {
			toks[i] = at(random.Intn(12)-1, random.Intn(60)-1, randomToken(random))
			toks[i].Auto = random.Intn(2) == 0
		}
		kept := append([]api.Token(nil), toks...)
		src, code := Render(toks)
		got, fault := Lex(src)
		if code != api.OK || fault != (api.Fault{}) || !Same(got, toks) {
			t.Fatalf("%v as %q: %v %v %v", toks, src, code, got, fault)
		}
		for i := range kept {
			if toks[i] != kept[i] {
				t.Fatal("Render changes its argument")
			}
		}
	}
}

// P2.5: positions are kept if no two tokens touch each other.
func TestPositionsAreKept(t *testing.T) {
	random := rand.New(rand.NewSource(2))
	gaps := []string{" ", "  ", "\n", "\n\n ", " \n  ", strings.Repeat("\n", 200), strings.Repeat(" ", 30), "\n" + strings.Repeat(" ", 900)}
	for range 500 {
		var src strings.Builder
		src.WriteString([]string{"", " ", "\n", "\n   "}[random.Intn(4)])
		for range random.Intn(12) {
			src.WriteString(textOf(randomToken(random)))
			src.WriteString(gaps[random.Intn(len(gaps))])
		}
		toks, fault := Lex(src.String())
		if fault != (api.Fault{}) {
			t.Fatal(fault)
		}
		for _, tok := range toks {
			if tok.Col > 1000 {
				toks = nil // out of the bound of the promise
			}
		}
		again, _ := Render(toks)
		got, fault := Lex(again)
		if fault != (api.Fault{}) || len(got) != len(toks) {
			t.Fatal(again, fault)
		}
		for i := range got {
			if got[i] != toks[i] {
				t.Fatalf("%q: %v became %v", src.String(), toks[i], got[i])
			}
		}
	}
}

// P2.5: blanks and comments between tokens do not change the tokens.
func TestBlanksDoNotMatter(t *testing.T) {
	random := rand.New(rand.NewSource(3))
	gaps := []string{" ", "\t", "\n", " {- a -} ", "{--}", "{- {- ' -} \n -}", " -- \" '\n", "\n---\n", "{-- -}", " \n\t "}
	for range 1000 {
		var src strings.Builder
		var want []api.Token
		for range random.Intn(12) {
			tok := randomToken(random)
			want = append(want, tok)
			src.WriteString(textOf(tok) + gaps[random.Intn(len(gaps))])
		}
		if got, fault := Lex(src.String()); fault != (api.Fault{}) || !Same(got, want) {
			t.Fatalf("%q: %v %v, want %v", src.String(), got, fault, want)
		}
	}
}

// P2.1, P2.5: Lex returns for all strings, and what it accepts is printable.
func TestAnySource(t *testing.T) {
	random := rand.New(rand.NewSource(4))
	pieces := strings.Split("a|_|M|.|-|--|{|}|{-|-}|'|\"|\\|x|4|9|n|=|:|+|(|,|;|`|\n|\t| |where|\x01|\x80|\x00", "|")
	pieces = append(pieces, "|")
	accepted := 0
	for range 50000 {
		var b strings.Builder
		for range random.Intn(9) {
			b.WriteString(pieces[random.Intn(len(pieces))])
		}
		src := b.String()
		toks, fault := Lex(src)
		if fault != (api.Fault{}) {
			if fault.Line < 1 || fault.Col < 1 || fault.Name != "" || len(toks) != 0 {
				t.Fatalf("%q: %v %v", src, toks, fault)
			}
			continue
		}
		accepted++
		again, code := Render(toks)
		if got, fault := Lex(again); code != api.OK || fault != (api.Fault{}) || !Same(got, toks) {
			t.Fatalf("%q: %v as %q: %v %v", src, toks, again, got, fault)
		}
	}
	if accepted < 5000 {
		t.Error("only", accepted, "sources are accepted")
	}
}
