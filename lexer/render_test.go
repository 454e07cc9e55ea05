package lexer

import (
	"math"
	"strings"
	"testing"

	"lazyc/api"
)

func checkRender(t *testing.T, want string, toks ...api.Token) {
	t.Helper()
	if got, code := Render(toks); got != want || code != api.OK {
		t.Errorf("Render(%v) = %q, %v, want %q", toks, got, code, want)
	}
}

// P2.2: the text of each token.
func TestRenderText(t *testing.T) {
	checkRender(t, "")
	for want, tok := range map[string]api.Token{
		"x": variable("x"), "M.x": named(api.TokVar, "M", "x"), "X": con("X"), "M.X": named(api.TokCon, "M", "X"),
		"+": oper("+"), "M..": named(api.TokOp, "M", "."), ":": conOper(":"), "M.:+": named(api.TokConOp, "M", ":+"),
		"0": integer(0), "12": integer(12), "9223372036854775807": integer(api.MaxInt),
		"'a'": character('a'), "'\\''": character('\''), "'\"'": character('"'), "'\\x00'": character(0), "'\\xff'": character(255), "'\\n'": character('\n'),
		"\"\"": text(""), "\"a'\\\"\\\\\\n\\t\\x80\"": text("a'\"\\\n\t\x80"),
		"(": special("("), "`": special("`"), "where": word("where"), "_": word("_"), "=>": symbol("=>"),
		strings.Repeat("a", 64): variable(strings.Repeat("a", 64)), "\"" + strings.Repeat("a", 200) + "\"": text(strings.Repeat("a", 200)),
	} {
		checkRender(t, want, tok)
		tok.Auto = true
		checkRender(t, " "+want+" "+want, at(1, 2, tok), tok)
	}
}

// P2.2: positions, where they are possible.
func TestRenderPositions(t *testing.T) {
	x := variable("x")
	checkRender(t, "x x", x, x)
	checkRender(t, "x", at(-1, -7, x))
	checkRender(t, "x", at(math.MinInt, math.MinInt, x))
	checkRender(t, "x", at(1, 1, x))
	checkRender(t, " x", at(1, 2, x))
	checkRender(t, "x x", at(1, 1, x), at(1, 2, x))
	checkRender(t, "x x", at(1, 1, x), at(1, 3, x))
	checkRender(t, "x  x", at(1, 1, x), at(1, 4, x))
	checkRender(t, "x  x x", at(1, 1, x), at(1, 4, x), at(1, 5, x))
	checkRender(t, "\n\nx", at(3, 1, x))
	checkRender(t, "\n\nx x\n  x", at(3, 0, x), at(2, 1, x), at(4, 3, x))
	checkRender(t, "x\nx", x, at(2, 0, x))
	checkRender(t, "x\n\n x x", x, at(3, 2, x), x)
	checkRender(t, "f  x\n = x", at(1, 1, variable("f")), at(1, 4, x), at(2, 2, symbol("=")), at(2, 4, x))
	checkRender(t, "\"\\n\"  x", at(1, 1, text("\n")), at(1, 7, x))
}

// P2.2: positions that are too far away.
func TestRenderFarPositions(t *testing.T) {
	x := variable("x")
	checkRender(t, strings.Repeat("\n", 200)+"x", at(201, 1, x))
	checkRender(t, strings.Repeat("\n", 200)+"x", at(202, 1, x))
	checkRender(t, strings.Repeat("\n", 200)+"x\nx", at(math.MaxInt, 1, x), at(202, 1, x))
	checkRender(t, strings.Repeat("\n", 200)+"x"+strings.Repeat("\n", 150)+"x", at(500, 1, x), at(351, 1, x))
	checkRender(t, strings.Repeat(" ", 999)+"x", at(1, 1000, x))
	checkRender(t, "x", at(1, 1001, x))
	checkRender(t, "x x", x, at(1, math.MaxInt, x))
	checkRender(t, strings.Repeat(" ", 999)+"x x", at(1, 1000, x), at(1, 1003, x))
	checkRender(t, "x"+strings.Repeat(" ", 998)+"x x", at(1, 1, x), at(1, 1000, x), at(1, 1000, x))
	checkRender(t, "\nx", at(2, 1001, x))
}

// P2.2: tokens that Lex never returns.
func TestRenderUnprintable(t *testing.T) {
	long := strings.Repeat("a", 65)
	bad := []api.Token{
		{}, {Op: -1, Text: "x"}, {Op: 11, Text: "x"}, {Op: 12},
		variable(""), variable("X"), variable("+"), variable("where"), variable("x$1"), variable("M.x"), variable("x y"), variable(long), variable("1"), variable(" x"),
		con("x"), con(""), con(":"), con(strings.ToUpper(long)), con("M.X"), con("M.N.X"),
		oper("--"), oper("="), oper(":"), oper("x"), oper(""), oper(strings.Repeat("+", 65)), oper("M.+"), oper("---"),
		conOper("+"), conOper("::"), conOper(""), conOper("X"),
		word("x"), word(""), word("="), word("Where"), symbol("+"), symbol(""), symbol("where"), symbol("--"),
		special("()"), special(""), special("x"), special("+"), special("\""), special("{}"), special("()[]{},;`"),
		named(api.TokVar, "m", "x"), named(api.TokVar, "M.N", "x"), named(api.TokVar, strings.ToUpper(long), "x"), named(api.TokVar, "M", "where"), named(api.TokVar, "where", "x"), named(api.TokVar, "M$1", "x"), named(api.TokVar, ":", "x"),
		named(api.TokCon, "m", "X"), named(api.TokOp, "m", "+"), named(api.TokOp, "M", "="), named(api.TokConOp, "+", ":"), named(api.TokCon, "M", "x"), named(api.TokOp, "M", "--"),
		named(api.TokWord, "M", "where"), named(api.TokSym, "M", "="), named(api.TokSpecial, "M", "("), named(api.TokString, "M", "x"), named(api.TokInt, "M", ""), named(api.TokChar, "M", ""),
		integer(-1), integer(math.MinInt), character(-1), character(256), {Op: api.TokInt, Text: "1"}, {Op: api.TokChar, Text: "a", N: 97},
		text(long + long + long + "123456"), {Op: api.TokString, N: 1},
		{Op: api.TokVar, Text: "x", N: 1}, {Op: api.TokCon, Text: "X", N: 1}, {Op: api.TokOp, Text: "+", N: -1}, {Op: api.TokConOp, Text: ":", N: 1},
		{Op: api.TokWord, Text: "of", N: 1}, {Op: api.TokSym, Text: "=", N: 1}, {Op: api.TokSpecial, Text: "(", N: 40},
	}
	many := make([]api.Token, api.MaxTokens+1)
	for i := range many {
		many[i] = variable("x")
	}
	for _, tok := range bad {
		many[len(many)-1] = tok
		for _, toks := range [][]api.Token{{tok}, {variable("x"), tok}, {tok, variable("x")}, many} {
			if s, code := Render(toks); s != "" || code != api.ErrArg {
				t.Errorf("Render(%v) = %.20q, %v", tok, s, code)
			}
		}
	}
}

// P2.2: the limits of a source.
func TestRenderLimits(t *testing.T) {
	checkLength := func(toks []api.Token, length int, code api.Errno) {
		t.Helper()
		if s, got := Render(toks); len(s) != length || got != code {
			t.Errorf("%d tokens: %d bytes, %v", len(toks), len(s), got)
		}
	}
	toks := make([]api.Token, api.MaxTokens+1)
	for i := range toks {
		toks[i] = special("(")
	}
	checkLength(toks[1:], 2*api.MaxTokens-1, api.OK)
	checkLength(toks, 0, api.ErrLong)
	wide := make([]api.Token, api.MaxSource/64) // each takes 64 bytes, with the space before it
	for i := range wide {
		wide[i] = variable(strings.Repeat("a", 63))
	}
	checkLength(wide, api.MaxSource-1, api.OK)
	wide[0] = at(1, 2, wide[0])
	checkLength(wide, api.MaxSource, api.OK)
	wide[0] = at(1, 3, wide[0])
	checkLength(wide, 0, api.ErrLong)
	for i := range toks {
		toks[i] = at(math.MaxInt, 1000, special("("))
	}
	checkLength(toks[1:], 0, api.ErrLong)
}

// P2.3: two sequences are the same if they differ only in positions and marks.
func TestSame(t *testing.T) {
	base := api.Token{Op: api.TokVar, Qual: "M", Text: "x", N: 3}
	list := []api.Token{variable("a"), base, variable("b")}
	change := func(f func(*api.Token)) []api.Token {
		c := append([]api.Token(nil), list...)
		f(&c[1])
		return c
	}
	for _, same := range [][]api.Token{
		list, change(func(t *api.Token) { t.Auto = true }), change(func(t *api.Token) { t.Line = 4 }), change(func(t *api.Token) { t.Col = 4 }),
	} {
		if !Same(list, same) || !Same(same, list) {
			t.Errorf("%v and %v are not the same", list, same)
		}
	}
	for _, other := range [][]api.Token{
		nil, list[:2], list[1:], append(list[:3:3], base), {list[1], list[0], list[2]},
		change(func(t *api.Token) { t.Op = api.TokCon }), change(func(t *api.Token) { t.Qual = "" }), change(func(t *api.Token) { t.Text = "y" }), change(func(t *api.Token) { t.N = 4 }),
	} {
		if Same(list, other) || Same(other, list) {
			t.Errorf("%v and %v are the same", list, other)
		}
	}
	if !Same(nil, nil) || !Same(nil, []api.Token{}) || !Same([]api.Token{{}}, []api.Token{{}}) {
		t.Error("empty sequences")
	}
	if list[1] != base {
		t.Error("Same changes its argument")
	}
}

// P2.4: the literals of all bytes.
func TestQuote(t *testing.T) {
	escapes := map[int]string{9: "\\t", 10: "\\n", 92: "\\\\", 0: "\\x00", 1: "\\x01", 11: "\\x0b", 13: "\\x0d", 31: "\\x1f", 127: "\\x7f", 128: "\\x80", 171: "\\xab", 255: "\\xff"}
	for n := range 256 {
		single, double := string([]byte{byte(n)}), string([]byte{byte(n)})
		switch {
		case escapes[n] != "":
			single, double = escapes[n], escapes[n]
		case n == '\'':
			single = "\\'"
		case n == '"':
			double = "\\\""
		case n < 32 || n > 126:
			continue
		}
		if got := QuoteChar(n); got != "'"+single+"'" {
			t.Errorf("QuoteChar(%d) = %s", n, got)
		}
		if got := Quote("a" + string([]byte{byte(n)}) + "0"); got != "\"a"+double+"0\"" {
			t.Errorf("Quote of the byte %d: %s", n, got)
		}
	}
	for n := range 256 {
		checkTokens(t, QuoteChar(n)+Quote(string([]byte{byte(n), '0'})), character(n), text(string([]byte{byte(n), '0'})))
	}
	for _, n := range []int{-1, 256, 39 + 256, math.MinInt, math.MaxInt} {
		if got := QuoteChar(n); got != "" {
			t.Errorf("QuoteChar(%d) = %s", n, got)
		}
	}
	if Quote("") != "\"\"" || Quote("é") != "\"\\xc3\\xa9\"" || Quote(strings.Repeat("a", 1000)) != "\""+strings.Repeat("a", 1000)+"\"" {
		t.Error("Quote of other strings")
	}
}
