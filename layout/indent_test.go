package layout

import (
	"slices"
	"strings"
	"testing"

	"lazyc/api"
)

// P3.4: the sources that Indent writes, for tokens without and with marks.
func TestIndent(t *testing.T) {
	for tokens, want := range map[string]string{
		"{ }":                               "",
		"{ f = x }":                         "f = x",
		"{ f = do { a ; b } ; g = 1 }":      "f = do\n  a\n  b\ng = 1",
		"{ f = let { x = 1 } in x }":        "f = let\n  x = 1\n in x",
		"{ f = ( do { a } ) b }":            "f = ( do\n  a\n ) b",
		"{ f = do { ( a ; b ) } }":          "f = do\n  ( a\n  b )",
		"module M where { }":                "module M where",
		"module M where { a ; b }":          "module M where\na\nb",
		"module { a ; b }":                  "module { a ; b }",
		"module x":                          "module x",
		"{ f where { a where { b } } ; c }": "f where\n  a where\n    b\nc",
		"{ f where { a where { b } c } }":   "f where\n  a where\n    b\n   c",
		"{ f = do { } ; g }":                "f = do\ng",
		"{ f = do { do { } } ; g }":         "f = do\n  do\ng",
		"{ f = let { } in x }":              "f = let\n in x",
		"{ r { x = 1 ; y } }":               "r { x = 1 ; y }",
		"{ r { do { x ; y } ; z } ; w }":    "r { do\n  x\n  y\n ; z }\nw",
		"{ a":                               "{ a",
		"{ a ; b":                           "{ a ; b",
		"{ ( do { a }":                      "{ ( do\na",
		"{ let { x } y in z }":              "let\n  x\n y in z",
		"{ f = do { a } { b } }":            "f = do\n  a\n { b }",
		"{ case x of { A -> 1 ; B -> 2 } }": "case x of\n  A -> 1\n  B -> 2",
		"{ do { if a ; then b ; else c } }": "do\n  if a\n  then b\n  else c",
		"{ M.x 'a' \"b\\n\" 7 }":            "M.x 'a' \"b\\n\" 7",
	} {
		checkIndent(t, tokens, want)
	}
}

func checkIndent(t *testing.T, tokens, want string) {
	t.Helper()
	toks := lex(t, tokens)
	for range 2 {
		before := slices.Clone(toks)
		if got, code := Indent(toks); got != want || code != api.OK {
			t.Errorf("%q: %q %v, want %q", tokens, got, code, want)
		}
		if !slices.Equal(toks, before) {
			t.Errorf("%q: Indent changes its argument", tokens)
		}
		for i := range toks {
			toks[i].Auto, toks[i].Line, toks[i].Col = true, 7*i, 50-i
		}
	}
}

// P3.4: tokens that no layout implies.
func TestIndentForm(t *testing.T) {
	for _, tokens := range []string{
		"", "a", "a ; b", "do { a }", "{ a } b", "{ a } ; b", "{ a } }", "} { a }", "{ ; a }", "{ a ; }", "{ a ; ; b }",
		"{ f = do { a ; b } ; c", "{ ( do { a } )", "{ let { a } in b", "{ f = do { ; a } }", "{ f = do a }", "{ a ; in b }", "{ f = do { a } b", "{ ( a }", "{ let { x ; y in z } }",
		"{ { a } ; let { b } ; c where } }", "module M where a", "{ [ do { a , b } ] }",
	} {
		if got, code := Indent(lex(t, tokens)); got != "" || code != api.ErrForm {
			t.Errorf("%q: %q %v", tokens, got, code)
		}
	}
	for _, change := range []func(*api.Token){
		func(tok *api.Token) { tok.N = 1 },
		func(tok *api.Token) { tok.Qual = "M" },
	} {
		for _, at := range []int{0, 2, 4} {
			toks := lex(t, "{ a ; b }")
			change(&toks[at])
			if got, code := Indent(toks); got != "" || code != api.ErrForm {
				t.Errorf("%v: %q %v", toks, got, code)
			}
		}
	}
}

// P3.4: the errors of Render.
func TestIndentErrors(t *testing.T) {
	for _, bad := range []api.Token{{}, {Op: api.TokVar, Text: "X"}, {Op: api.TokSpecial, Text: "{}"}, {Op: api.TokInt, N: -1}} {
		toks := append(lex(t, "{ a ; b"), bad)
		if got, code := Indent(toks); got != "" || code != api.ErrArg {
			t.Errorf("%v: %q %v", bad, got, code)
		}
	}
	items := lex(t, strings.Repeat("a ; ", 8190)+"a")
	braces := lex(t, "{ }")
	toks := slices.Concat(braces[:1], items, braces[1:])
	if got, code := Indent(toks); got != strings.Repeat("a\n", 8190)+"a" || code != api.OK {
		t.Errorf("%d tokens: %d bytes, %v", len(toks), len(got), code)
	}
	// Without braces around them the semicolons are written, and there are too many tokens.
	if got, code := Indent(append(items, items...)); got != "" || code != api.ErrLong {
		t.Errorf("%d bytes, %v", len(got), code)
	}
	wide := slices.Repeat(lex(t, strings.Repeat("a", 64)), 1100)
	if got, code := Indent(wide); got != "" || code != api.ErrLong {
		t.Errorf("%d bytes, %v", len(got), code)
	}
}

// P3.4: nesting, up to the size of a source.
func TestIndentDeep(t *testing.T) {
	nested := func(n int) []api.Token {
		return lex(t, "{ "+strings.Repeat("do { ", n)+"x"+strings.Repeat(" }", n)+" }")
	}
	got, code := Indent(nested(254))
	if code != api.OK || strings.Count(got, "\n") != 254 || !strings.HasSuffix(got, " do\n"+strings.Repeat(" ", 508)+"x") {
		t.Errorf("%d bytes, %v", len(got), code)
	}
	for _, n := range []int{255, 2000} {
		if got, code := Indent(nested(n)); got != "" || code != api.ErrLong {
			t.Errorf("%d levels: %d bytes, %v", n, len(got), code)
		}
	}
}
