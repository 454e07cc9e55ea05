package layout

import (
	"math"
	"slices"
	"strings"
	"testing"

	"lazyc/api"
	"lazyc/lexer"
)

// lex returns the tokens of a source that the lexer accepts.
func lex(t *testing.T, src string) []api.Token {
	t.Helper()
	toks, fault := lexer.Lex(src)
	if fault != (api.Fault{}) {
		t.Fatalf("%q: %v", src, fault)
	}
	return toks
}

// show writes the texts of tokens; braces and semicolons of the source stand in quotes, those that are inserted do not.
func show(toks []api.Token) string {
	inserted := api.Token{Op: api.TokSpecial, Auto: true}
	var texts []string
	for _, tok := range toks {
		text, _ := lexer.Render([]api.Token{{Op: tok.Op, Qual: tok.Qual, Text: tok.Text, N: tok.N}})
		inserted.Text = tok.Text
		if tok.Op == api.TokSpecial && strings.Contains("{;}", text) && tok != inserted {
			text = "'" + text + "'"
		}
		texts = append(texts, text)
	}
	return strings.Join(texts, " ")
}

// checkInsert checks the tokens of sources after Insert, as show writes them.
func checkInsert(t *testing.T, results map[string]string) {
	t.Helper()
	for src, want := range results {
		got, fault := Insert(lex(t, src))
		if fault != (api.Fault{}) || show(got) != want {
			t.Errorf("%q: %s %v, want %s", src, show(got), fault, want)
		}
	}
}

// checkLayout checks that Insert of a source fails at a token.
func checkLayout(t *testing.T, src, name string, line, col int) {
	t.Helper()
	got, fault := Insert(lex(t, src))
	if want := (api.Fault{Code: api.ErrLayout, Name: name, Line: line, Col: col}); fault != want || len(got) != 0 {
		t.Errorf("%q: %s %v, want %v", src, show(got), fault, want)
	}
}

// P3.1: rule 1, where blocks begin.
func TestBlocksBegin(t *testing.T) {
	checkInsert(t, map[string]string{
		"":                                 "{ }",
		"f x = x":                          "{ f x = x }",
		"\n   f x = x":                     "{ f x = x }",
		"module M where":                   "module M where { }",
		"module M where\nx = 1\ny = 2":     "module M where { x = 1 ; y = 2 }",
		"module\n M\nwhere\n  x = 1\n  y":  "module M where { x = 1 ; y }",
		"module M where { x }":             "module M where '{' x '}'",
		"module M where\n{ x ;\ny }":       "module M where '{' x ';' y '}'",
		"module x y\nz":                    "module x y z",
		"{ x }":                            "'{' x '}'",
		"{\nx\ny\n}":                       "'{' x y '}'",
		"{":                                "'{'",
		"x module":                         "{ x module }",
		"where module M":                   "{ where { module M } }",
		"(module)":                         "{ ( module ) }",
		"x = do\ny = 1":                    "{ x = do { } ; y = 1 }",
		"x = do\n y = 1":                   "{ x = do { y = 1 } }",
		"x where\n  y where\n  z":          "{ x where { y where { } ; z } }",
		"x where\n  y where\n z":           "{ x where { y where { } } z }",
		"x = let\n in y":                   "{ x = let { } in y }",
		"x = do {\ny\n}":                   "{ x = do '{' y '}' }",
		"x = do\n{\ny }":                   "{ x = do '{' y '}' }",
		"{ x = do\n y\n z }":               "'{' x = do { y ; z } '}'",
		"{ x = do\ny }":                    "'{' x = do { y } '}'",
		"x = do\n  do\ny":                  "{ x = do { do { } } ; y }",
		"let x where y do z":               "{ let { x where { y do { z } } } }",
		"case x of\n  A -> 1\n  B -> 2\nf": "{ case x of { A -> 1 ; B -> 2 } ; f }",
		"\"where\" x":                      "{ \"where\" x }",
		"M.x 'a' 1":                        "{ M.x 'a' 1 }",
	})
	checkLayout(t, "x = let\nin y", "in", 2, 1)
}

// P3.1: rule 2, what a new line does.
func TestLines(t *testing.T) {
	checkInsert(t, map[string]string{
		"f = x\n  y":                        "{ f = x y }",
		"f\n g\nh\n\n\n  i\nj":              "{ f g ; h i ; j }",
		"f = do\n  a\n  b\ng = 1":           "{ f = do { a ; b } ; g = 1 }",
		"f = do\n  do\n    a\ng":            "{ f = do { do { a } } ; g }",
		"f = do\n  do\n    a\n  g":          "{ f = do { do { a } ; g } }",
		"f = do\n    a\n  b":                "{ f = do { a } b }",
		"f = let\n    x = 1\n  in x":        "{ f = let { x = 1 } in x }",
		"let y = 1\n    z = 2\n in y":       "{ let { y = 1 ; z = 2 } in y }",
		"let\n  let\n    x\n   in y\n in z": "{ let { let { x } in y } in z }",
		"f [a\nb]":                          "{ f [ a ; b ] }",
		"f (a\nb)":                          "{ f ( a ; b ) }",
		"f = do\n  (a\n  b)":                "{ f = do { ( a ; b ) } }",
		"f = do\n  x { a\nb }\n  c\nd":      "{ f = do { x '{' a b '}' ; c } ; d }",
		"f = do { a\nb }\nc":                "{ f = do '{' a b '}' ; c }",
		"f = do\n  if a\n  then b\n  else":  "{ f = do { if a ; then b ; else } }",
		"f where { let\n x\n y\nz }":        "{ f where '{' let { x ; y } z '}' }",
	})
	checkLayout(t, "let y = 1\n    z = 2\nin y", "in", 3, 1)
	checkLayout(t, "f = do\n  (a\n b", "b", 3, 2)
	checkLayout(t, "f = do\n  [a\nb]", "b", 3, 1)
	checkLayout(t, "f = (do\n  case a of [b\n b]", "b", 3, 2)
}

// P3.1: rule 3, what a new item cannot continue.
func TestItems(t *testing.T) {
	checkInsert(t, map[string]string{
		"do if a; then b; else c":          "{ do { if a ';' then b ';' else c } }",
		"do if a;; then b;;; else c":       "{ do { if a ';' ';' then b ';' ';' ';' else c } }",
		"do\n  if a\n  ; then b\n  else c": "{ do { if a ; ';' then b ; else c } }",
		"if do a; b then c":                "{ if do { a ';' b } then c }",
		"if (a; b) then c":                 "{ if ( a ';' b ) then c }",
		"do if a; x = 1":                   "{ do { if a ';' x = 1 } }",
	})
	checkLayout(t, "do if a; b then c", "then", 1, 12)
	checkLayout(t, "do if a\n   b then c", "then", 2, 6)
	checkLayout(t, "if a; ; b then c", "then", 1, 11)
	checkLayout(t, "if a then b; c else d", "else", 1, 16)
	checkLayout(t, "if a then b; \"else\" else d", "else", 1, 21)
	checkLayout(t, "case a; b of", "of", 1, 11)
	checkLayout(t, "module if; a then b", "then", 1, 14)
	checkLayout(t, "case a; of", "of", 1, 9)
	checkLayout(t, "if case a; then of", "of", 1, 17)
	checkLayout(t, "let { x } ; in x", "in", 1, 13)
}

// P3.1: rule 4, brackets.
func TestBrackets(t *testing.T) {
	checkInsert(t, map[string]string{
		"(do a)":                   "{ ( do { a } ) }",
		"[do case a of b]":         "{ [ do { case a of { b } } ] }",
		"([{}])":                   "{ ( [ '{' '}' ] ) }",
		"let { x = 1 } in x":       "{ let '{' x = 1 '}' in x }",
		"let { do x } in x":        "{ let '{' do { x } '}' in x }",
		"let { x } let { y } in z": "{ let '{' x '}' let '{' y '}' in z }",
		"let x { a } in y":         "{ let { x '{' a '}' } in y }",
		"{ f = do a }":             "'{' f = do { a } '}'",
		"{ (x":                     "'{' ( x",
		"f { x":                    "{ f '{' x }",
	})
	for _, src := range []string{")", "]", "}", "(]", "(}", "[)", "[}", "{)", "{]"} {
		checkLayout(t, src, src[len(src)-1:], 1, len(src))
	}
	checkLayout(t, "(do a]", "]", 1, 6)
	checkLayout(t, "do a)", ")", 1, 5)
	checkLayout(t, "(if a) then b", "then", 1, 8)
	checkLayout(t, "[case a] of b", "of", 1, 10)
	checkLayout(t, "do { a } in b", "in", 1, 10)
	checkLayout(t, "x { a } in b", "in", 1, 9)
	checkLayout(t, "{ let x } in b", "in", 1, 11)
}

// P3.1: rule 4, commas.
func TestCommas(t *testing.T) {
	checkInsert(t, map[string]string{
		"(case x of A -> 1, 2)":         "{ ( case x of { A -> 1 } , 2 ) }",
		"[do a, b]":                     "{ [ do { a } , b ] }",
		"[do case x of a, b]":           "{ [ do { case x of { a } } , b ] }",
		"[let x = 1, y]":                "{ [ let { x = 1 } , y ] }",
		"[let x = 1, in y]":             "{ [ let { x = 1 } , in y ] }",
		"[let x = do a, in y]":          "{ [ let { x = do { a } } , in y ] }",
		"[let x, y]":                    "{ [ let { x , y } ] }",
		"[let x == 1, y]":               "{ [ let { x == 1 , y } ] }",
		"[let x | y, z]":                "{ [ let { x | y , z } ] }",
		"[let \"=\", y]":                "{ [ let { \"=\" , y } ] }",
		"(x) [y] do { z } do a, b":      "{ ( x ) [ y ] do '{' z '}' do { a , b } }",
		"[let (x = 1), y]":              "{ [ let { ( x = 1 ) , y } ] }",
		"[let (x) = 1, y]":              "{ [ let { ( x ) = 1 } , y ] }",
		"[let if = 1, y]":               "{ [ let { if = 1 } , y ] }",
		"[let x = 1; y, z]":             "{ [ let { x = 1 ';' y , z } ] }",
		"[let x = 1; y = 2, z]":         "{ [ let { x = 1 ';' y = 2 } , z ] }",
		"[let x = 1; if; y, z]":         "{ [ let { x = 1 ';' if ';' y , z } ] }",
		"[let x = 1\n     y, z]":        "{ [ let { x = 1 ; y , z } ] }",
		"[let x = 1 + (2 ; 3), z]":      "{ [ let { x = 1 + ( 2 ';' 3 ) } , z ] }",
		"(f where x, y)":                "{ ( f where { x , y } ) }",
		"(f where x = 1, y)":            "{ ( f where { x = 1 } , y ) }",
		"(do let x, y)":                 "{ ( do { let { x , y } } ) }",
		"(let do x, y)":                 "{ ( let { do { x } , y } ) }",
		"do a, b":                       "{ do { a , b } }",
		"let x = 1, b":                  "{ let { x = 1 , b } }",
		"{ f = do a, b }":               "'{' f = do { a } , b '}'",
		"(do (a, b))":                   "{ ( do { ( a , b ) } ) }",
		"(do x { a, b })":               "{ ( do { x '{' a , b '}' } ) }",
		"[x | let y = 1, z <- do w, v]": "{ [ x | let { y = 1 } , z <- do { w } , v ] }",
	})
	checkLayout(t, "[do if a, then b]", "then", 1, 11)

}

// P3.1: rule 4, words that belong together.
func TestWords(t *testing.T) {
	checkInsert(t, map[string]string{
		"case x of y":                         "{ case x of { y } }",
		"case case x of y of z":               "{ case case x of { y } of { z } }",
		"case do x of y":                      "{ case do { x } of { y } }",
		"case if a of b":                      "{ case if a of { b } }",
		"if a then b else c":                  "{ if a then b else c }",
		"if do a then do b else do c":         "{ if do { a } then do { b } else do { c } }",
		"if if a then b else c then d else e": "{ if if a then b else c then d else e }",
		"if case a of b then c":               "{ if case a of { b } then c }",
		"if a then case b of c else d":        "{ if a then case b of { c } else d }",
		"let x = 1 in x":                      "{ let { x = 1 } in x }",
		"let x = let y = 1 in y in x":         "{ let { x = let { y = 1 } in y } in x }",
		"let x = case a in b":                 "{ let { x = case a } in b }",
		"let x where do y in z":               "{ let { x where { do { y } } } in z }",
		"let { x } in let y in z":             "{ let '{' x '}' in let { y } in z }",
		"let x = let { y } in z in w":         "{ let { x = let '{' y '}' in z } in w }",
		"let { x } do y in z":                 "{ let '{' x '}' do { y } in z }",
		"if let x = 1 then 2 else 3":          "{ if let { x = 1 } then 2 else 3 }",
		"do of' in' then'":                    "{ do { of' in' then' } }",
	})
	for _, test := range []struct {
		src, name string
		col       int
	}{
		{"of", "of", 1}, {"then", "then", 1}, {"else", "else", 1}, {"in", "in", 1},
		{"case (x of y", "of", 9}, {"case [x of y", "of", 9}, {"case { x of y", "of", 10}, {"if x of", "of", 6}, {"let x of", "of", 7},
		{"if (a then", "then", 7}, {"case a then", "then", 8}, {"if a then b then", "then", 13},
		{"if a else b", "else", 6}, {"if a then (b else", "else", 14}, {"if a then b else c else", "else", 20},
		{"let (x in", "in", 8}, {"let { x in", "in", 9}, {"do x in", "in", 6}, {"let x in y in z", "in", 12}, {"where x in", "in", 9},
		{"let where of", "of", 11}, {"if let x = 1 then 2 in", "in", 21}, {"case a of b of c", "of", 13},
	} {
		checkLayout(t, test.src, test.name, 1, test.col)
	}
}

// P3.1: what is done at the end.
func TestEnd(t *testing.T) {
	checkInsert(t, map[string]string{
		"x = do":                "{ x = do { } }",
		"let":                   "{ let { } }",
		"let do":                "{ let { do { } } }",
		"{ where":               "'{' where { }",
		"{ ( do x":              "'{' ( do { x }",
		"{ [ do { let x":        "'{' [ do '{' let { x }",
		"{ ( case":              "'{' ( case",
		"if case let x":         "{ if case let { x } }",
		"module M where do (x)": "module M where { do { ( x ) } }",
		"module (":              "module (",
	})
	checkLayout(t, "(x", "x", 1, 2)
	checkLayout(t, "f\n = [", "[", 2, 4)
	checkLayout(t, "{ do (x", "x", 1, 7)
	checkLayout(t, "{ do ({ x", "x", 1, 9)
	checkLayout(t, "do [do", "do", 1, 5)
}

// bare returns tokens without positions.
func bare(t *testing.T, src string) []api.Token {
	toks := lex(t, src)
	for i := range toks {
		toks[i].Line, toks[i].Col = 0, 0
	}
	return toks
}

// P3.1: tokens whose positions are not those of a source.
func TestOddPositions(t *testing.T) {
	for src, want := range map[string]string{
		"x y":                "{ } x y",
		"let in x":           "{ } let { } in x",
		"[let, in x]":        "{ } [ let { } , in x ]",
		"let do in x":        "{ } let { } do { } in x",
		"module M where x":   "module M where { } x",
		"case where of x":    "{ } case where { } of { } x",
		"{ let where in x }": "'{' let { } where { } in x '}'",
	} {
		if got, fault := Insert(bare(t, src)); fault != (api.Fault{}) || show(got) != want {
			t.Errorf("%q: %s %v, want %s", src, show(got), fault, want)
		}
	}
	check := func(want string, positions ...[2]int) {
		t.Helper()
		var toks []api.Token
		for _, at := range positions {
			toks = append(toks, api.Token{Op: api.TokVar, Text: "x", Line: at[0], Col: at[1]})
		}
		if got, fault := Insert(toks); fault != (api.Fault{}) || show(got) != want {
			t.Errorf("%v: %s %v, want %s", positions, show(got), fault, want)
		}
	}
	check("{ x ; x x x }", [2]int{1, 3}, [2]int{2, 3}, [2]int{2, 3}, [2]int{1, 3})
	check("{ x } x x", [2]int{-5, 3}, [2]int{0, 2}, [2]int{1, 9})
	check("{ } x x", [2]int{1, -1}, [2]int{2, -1})
	check("{ x ; x }", [2]int{math.MinInt, math.MaxInt}, [2]int{math.MaxInt, math.MaxInt})
	check("{ x } x", [2]int{math.MinInt, 1}, [2]int{math.MaxInt, math.MinInt})
}

// P3.1: only the class and the text of a token tell what it is.
func TestClassesOfTokens(t *testing.T) {
	for _, tok := range []api.Token{
		{Op: api.TokString, Text: "{"}, {Op: api.TokString, Text: "where"}, {Op: api.TokVar, Text: "where"}, {Op: api.TokWord, Text: "{"}, {Op: api.TokSpecial, Text: "let"},
		{Op: api.TokSpecial, Text: "="}, {Op: api.TokString, Text: ")"}, {Op: api.TokOp, Text: "of"}, {Text: "("}, {Op: 77, Text: "}"},
		{Op: api.TokWord, Qual: "M", Text: "wheres", N: 7},
	} {
		tok.Line, tok.Col = 1, 1
		got, fault := Insert([]api.Token{tok, tok})
		want := []api.Token{{Op: api.TokSpecial, Text: "{", Auto: true}, tok, tok, {Op: api.TokSpecial, Text: "}", Auto: true}}
		if fault != (api.Fault{}) || !slices.Equal(got, want) {
			t.Errorf("%v: %v %v", tok, got, fault)
		}
	}
	braces := []api.Token{{Op: api.TokSpecial, Qual: "M", Text: "{", N: 7}, {Op: api.TokSpecial, Qual: "N", Text: "}", N: 8}}
	if got, fault := Insert(braces); fault != (api.Fault{}) || !slices.Equal(got, braces) {
		t.Error(got, fault)
	}
}

// P3.1: tokens that Insert does not accept.
func TestInsertedTokens(t *testing.T) {
	for _, src := range []string{"x", "{ x }", ") x", "(x", strings.Repeat("x ", api.MaxTokens)} {
		toks := lex(t, src)
		toks[len(toks)-1].Auto = true
		if got, fault := Insert(toks); fault != (api.Fault{Code: api.ErrArg}) || len(got) != 0 {
			t.Errorf("%.20q: %v", src, fault)
		}
	}
}

// P3.1: the limit on the result.
func TestInsertLimit(t *testing.T) {
	x := api.Token{Op: api.TokVar, Text: "x", Line: 1, Col: 1}
	toks := slices.Repeat([]api.Token{x}, api.MaxTokens)
	if got, fault := Insert(toks[2:]); fault != (api.Fault{}) || len(got) != api.MaxTokens {
		t.Error(len(got), fault)
	}
	for _, long := range [][]api.Token{toks[1:], toks, slices.Repeat(toks, 20)} {
		if got, fault := Insert(long); fault != (api.Fault{Code: api.ErrLong}) || len(got) != 0 {
			t.Error(len(got), fault)
		}
	}
	closing := api.Token{Op: api.TokSpecial, Text: ")", Line: 4, Col: 5}
	if got, fault := Insert(append(toks, closing)); fault != (api.Fault{Code: api.ErrLayout, Name: ")", Line: 4, Col: 5}) || len(got) != 0 {
		t.Error(len(got), fault)
	}
}

// P3.1: many tokens, and much nesting.
func TestInsertMany(t *testing.T) {
	const many = 100000
	do := api.Token{Op: api.TokWord, Text: "do", Line: 1}
	comma := api.Token{Op: api.TokSpecial, Text: ",", Line: 1}
	open := api.Token{Op: api.TokSpecial, Text: "(", Line: 1}
	equals := api.Token{Op: api.TokSym, Text: "="}
	pending := api.Token{Op: api.TokWord, Text: "if"}
	for _, pattern := range [][]api.Token{{do}, {do, comma}, {open}, {open, do}, {pending, equals}, {pending, equals, do, comma}} {
		toks := slices.Repeat(pattern, many)
		for i := range toks {
			toks[i].Line, toks[i].Col = i, i+1
		}
		if got, fault := Insert(toks); fault.Code != api.ErrLong && fault.Code != api.ErrLayout || len(got) != 0 {
			t.Error(pattern, fault)
		}
	}
}
