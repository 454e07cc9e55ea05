package layout

import (
	"slices"
	"testing"

	"lazyc/api"
)

// P3.1: Strip removes the tokens with a mark, and no others.
func TestStrip(t *testing.T) {
	kept := []api.Token{{Op: api.TokSpecial, Text: "{", Line: 1, Col: 2}, {}, {Op: api.TokInt, N: 4}}
	marked := api.Token{Op: api.TokVar, Text: "x", Auto: true, Line: 7, Col: 8}
	toks := []api.Token{marked, kept[0], marked, marked, kept[1], kept[2], {Auto: true}}
	before := slices.Clone(toks)
	if got := Strip(toks); !slices.Equal(got, kept) {
		t.Error(got)
	}
	if !slices.Equal(toks, before) {
		t.Error("Strip changes its argument")
	}
	if got := Strip(kept); !slices.Equal(got, kept) || &got[0] == &kept[0] {
		t.Error("nothing to strip:", got)
	}
	if len(Strip(nil)) != 0 || len(Strip([]api.Token{marked})) != 0 {
		t.Error("nothing is left")
	}
}

// P3.2: Explicit removes marks, and nothing else.
func TestExplicit(t *testing.T) {
	toks := []api.Token{{Op: api.TokSpecial, Text: "{", Auto: true}, {Op: 99, Qual: "M", Text: "x", N: 3, Auto: true, Line: 4, Col: 5}, {Op: api.TokVar, Text: "x", Line: 1, Col: 1}}
	want := slices.Clone(toks)
	want[0].Auto, want[1].Auto = false, false
	if got := Explicit(toks); !slices.Equal(got, want) {
		t.Error(got)
	}
	if !toks[0].Auto || !toks[1].Auto {
		t.Error("Explicit changes its argument")
	}
	if len(Explicit(nil)) != 0 {
		t.Error("Explicit of nothing")
	}
}

// P3.5: Depth counts the braces, whoever has written them.
func TestDepth(t *testing.T) {
	for src, want := range map[string]int{
		"":                      0,
		"x":                     0,
		"( [ x":                 0,
		"{":                     1,
		"{ }":                   1,
		"{ f = do { a } }":      2,
		"{ { } { { } } }":       3,
		"{ } { }":               1,
		"} } }":                 0,
		"} } {":                 0,
		"} } { { {":             1,
		"{ { } } } } { { {":     2,
		"\"{\" \"{\"":           0,
		"{ x ; y ; { z } ; { w": 2,
	} {
		toks := lex(t, src)
		if got := Depth(toks); got != want {
			t.Errorf("%q: %d", src, got)
		}
		for i := range toks {
			toks[i].Auto = i%2 == 0
		}
		if got := Depth(toks); got != want {
			t.Errorf("%q with marks: %d", src, got)
		}
	}
	if got := Depth([]api.Token{{Op: api.TokWord, Text: "{"}, {Text: "{"}, {Op: api.TokSym, Text: "{"}}); got != 0 {
		t.Error("other classes of tokens:", got)
	}
	toks, _ := Insert(lex(t, "f = do\n  do {\n a\n }"))
	if Depth(toks) != 3 || Depth(Strip(toks)) != 1 {
		t.Error("Depth of", show(toks))
	}
}
