package lexer

import (
	"strings"
	"testing"

	"lazyc/api"
)

// at gives a token its position.
func at(line, col int, tok api.Token) api.Token {
	tok.Line, tok.Col = line, col
	return tok
}

func named(op api.TokenOp, qual, text string) api.Token {
	return api.Token{Op: op, Qual: qual, Text: text}
}

func variable(text string) api.Token { return named(api.TokVar, "", text) }
func con(text string) api.Token      { return named(api.TokCon, "", text) }
func oper(text string) api.Token     { return named(api.TokOp, "", text) }
func conOper(text string) api.Token  { return named(api.TokConOp, "", text) }
func word(text string) api.Token     { return named(api.TokWord, "", text) }
func symbol(text string) api.Token   { return named(api.TokSym, "", text) }
func special(text string) api.Token  { return named(api.TokSpecial, "", text) }
func text(s string) api.Token        { return named(api.TokString, "", s) }
func integer(n int) api.Token        { return api.Token{Op: api.TokInt, N: n} }
func character(n int) api.Token      { return api.Token{Op: api.TokChar, N: n} }

// checkTokens checks the tokens of a source, apart from their positions.
func checkTokens(t *testing.T, src string, want ...api.Token) {
	t.Helper()
	got, fault := Lex(src)
	if fault != (api.Fault{}) {
		t.Errorf("%q: %v", src, fault)
		return
	}
	if len(got) != len(want) {
		t.Errorf("%q: %v, want %v", src, got, want)
		return
	}
	for i, tok := range got {
		if at(0, 0, tok) != want[i] || tok.Line < 1 || tok.Col < 1 {
			t.Errorf("%q: token %d is %v, want %v", src, i, tok, want[i])
		}
	}
}

// checkFault checks that a source has no tokens, but a fault.
func checkFault(t *testing.T, src string, code api.Errno, name string, line, col int) {
	t.Helper()
	got, fault := Lex(src)
	if want := (api.Fault{Code: code, Name: name, Line: line, Col: col}); fault != want || len(got) != 0 {
		t.Errorf("%.80q: %d tokens, %v, want %v", src, len(got), fault, want)
	}
}

// P2.1: tokens that consist of one name.
func TestNames(t *testing.T) {
	for src, want := range map[string]api.Token{
		"x": variable("x"), "_x": variable("_x"), "x'": variable("x'"), "x1_'Z": variable("x1_'Z"), "__": variable("__"), "wherever": variable("wherever"),
		"X": con("X"), "Mod1'": con("Mod1'"), "Where": con("Where"),
		"+": oper("+"), "-": oper("-"), "-->": oper("-->"), "|--": oper("|--"), "...": oper("..."), ".": oper("."), "==": oper("=="), "!#$%&*+./<=>?@\\^|-~": oper("!#$%&*+./<=>?@\\^|-~"),
		":": conOper(":"), ":+": conOper(":+"), ":::": conOper(":::"), ":--": conOper(":--"),
		"M.x": named(api.TokVar, "M", "x"), "M.X": named(api.TokCon, "M", "X"), "M.+": named(api.TokOp, "M", "+"), "M.:": named(api.TokConOp, "M", ":"),
		"M..": named(api.TokOp, "M", "."), "M....": named(api.TokOp, "M", "..."), "M.-": named(api.TokOp, "M", "-"), "M.--|": named(api.TokOp, "M", "--|"),
		"M'.x'": named(api.TokVar, "M'", "x'"), "M._x": named(api.TokVar, "M", "_x"), "Mod_1.where'": named(api.TokVar, "Mod_1", "where'"), "M.Where": named(api.TokCon, "M", "Where"),
	} {
		checkTokens(t, src, want)
	}
	for _, s := range strings.Fields("as case class data deriving do else hiding if import in infix infixl infixr instance let module of qualified then where _") {
		checkTokens(t, s, word(s))
		checkTokens(t, "M."+s, con("M"), oper("."), word(s))
		checkTokens(t, s+"'", variable(s+"'"))
	}
	for _, s := range strings.Fields(".. :: = \\ | <- -> @ ~ =>") {
		checkTokens(t, s, symbol(s))
		checkTokens(t, s+"x", symbol(s), variable("x"))
		if opOf("."+s) != api.TokOp {
			t.Error("no operator:", "."+s)
		}
		checkTokens(t, "M."+s, con("M"), oper("."+s))
	}
	for _, s := range strings.Split("()[]{},;`", "") {
		checkTokens(t, s, special(s))
		checkTokens(t, s+s+"M."+s, special(s), special(s), con("M"), oper("."), special(s))
	}
}

// P2.1: the longest unit is taken.
func TestLongestUnit(t *testing.T) {
	checkTokens(t, "f x = x", variable("f"), variable("x"), symbol("="), variable("x"))
	checkTokens(t, "M.N.x", named(api.TokCon, "M", "N"), oper("."), variable("x"))
	checkTokens(t, "M.x.y", named(api.TokVar, "M", "x"), oper("."), variable("y"))
	checkTokens(t, "M.x.N.y", named(api.TokVar, "M", "x"), oper("."), named(api.TokVar, "N", "y"))
	checkTokens(t, "m.x", variable("m"), oper("."), variable("x"))
	checkTokens(t, "M. x", con("M"), oper("."), variable("x"))
	checkTokens(t, "M .x", con("M"), oper("."), variable("x"))
	checkTokens(t, "M.", con("M"), oper("."))
	checkTokens(t, "M.1", con("M"), oper("."), integer(1))
	checkTokens(t, "M.'a'", con("M"), oper("."), character('a'))
	checkTokens(t, "M.(", con("M"), oper("."), special("("))
	checkTokens(t, "M+.x", con("M"), oper("+."), variable("x"))
	checkTokens(t, "M.--", con("M"), oper(".--"))
	checkTokens(t, "M.---- x", con("M"), oper(".----"), variable("x"))
	checkTokens(t, "M...", con("M"), oper("..."))
	checkTokens(t, "12ab", integer(12), variable("ab"))
	checkTokens(t, "a12", variable("a12"))
	checkTokens(t, "1.2", integer(1), oper("."), integer(2))
	checkTokens(t, "-1", oper("-"), integer(1))
	checkTokens(t, "a'b'", variable("a'b'"))
	checkTokens(t, "1'b'", integer(1), character('b'))
	checkTokens(t, "\"a\"\"b\"'c'", text("a"), text("b"), character('c'))
	checkTokens(t, "x<-y->z", variable("x"), symbol("<-"), variable("y"), symbol("->"), variable("z"))
	checkTokens(t, "[1..2]", special("["), integer(1), symbol(".."), integer(2), special("]"))
	checkTokens(t, "{x}", special("{"), variable("x"), special("}"))
	checkTokens(t, "=-", oper("=-"))
	checkTokens(t, "=>-", oper("=>-"))
	checkTokens(t, "-}", oper("-"), special("}"))
}

// P2.1: integer, character and string literals.
func TestLiterals(t *testing.T) {
	for src, n := range map[string]int{"0": 0, "7": 7, "0012": 12, "9223372036854775807": api.MaxInt, "000000000000000000009223372036854775807": api.MaxInt, strings.Repeat("0", 300): 0} {
		checkTokens(t, src, integer(n))
	}
	for src, n := range map[string]int{
		"' '": 32, "'a'": 97, "'~'": 126, "'\"'": 34, "'\\n'": 10, "'\\t'": 9, "'\\\\'": 92, "'\\''": 39, "'\\\"'": 34,
		"'\\x00'": 0, "'\\x4a'": 74, "'\\x4A'": 74, "'\\xfF'": 255, "'\\x09'": 9, "'\\xa0'": 160, "'\\xAF'": 175, "'{'": 123, "'-'": 45,
	} {
		checkTokens(t, src, character(n))
	}
	for src, s := range map[string]string{
		`""`: "", `"ab'"`: "ab'", `" "`: " ", `"\n\t\\\'\""`: "\n\t\\'\"", `"\x00\xff\x7f"`: "\x00\xff\x7f", `"\x414"`: "A4", `"-- {- -}"`: "-- {- -}", `"\\"`: "\\",
		`"` + strings.Repeat("a", 200) + `"`: strings.Repeat("a", 200), `"` + strings.Repeat(`\xfe`, 200) + `"`: strings.Repeat("\xfe", 200),
	} {
		checkTokens(t, src, text(s))
	}
	checkTokens(t, "'a''b'", character('a'), character('b'))
	checkTokens(t, `"a"b"c"`, text("a"), variable("b"), text("c"))
}

// P2.1: blanks and comments separate units, and are none.
func TestBlanksAndComments(t *testing.T) {
	for _, src := range []string{
		"", " ", "\n\t ", "--", "-- x", "--- x\n", "--x\n  ", "-----", "{--}", "{- x -}", "{- {- -} -}", "{-{--}{--}-}", "{---}", "{----}", "{-\n-- -}", "{- \" ' -}", "--{-\n", "{-}-}", "{- -- -}", "{-- --}",
		strings.Repeat("-", 100), "-- " + strings.Repeat("a", 100) + " ' \"", "{-" + strings.Repeat("{-", 5000) + strings.Repeat("-}", 5001),
	} {
		checkTokens(t, src)
		checkTokens(t, src+"\na", variable("a"))
		checkTokens(t, "a "+src, variable("a"))
	}
	checkTokens(t, "a--b\nc", variable("a"), variable("c"))
	checkTokens(t, "a{--}b", variable("a"), variable("b"))
	checkTokens(t, "M{--}.x", con("M"), oper("."), variable("x"))
	checkTokens(t, "+{- -}+", oper("+"), oper("+"))
	checkTokens(t, "{- a {- b -} c -} x {--} y", variable("x"), variable("y"))
	checkTokens(t, "{-- a -} b", variable("b"))
	checkTokens(t, "{-{-}-}-} a", variable("a"))
	checkTokens(t, "a --> b --| c -- d", variable("a"), oper("-->"), variable("b"), oper("--|"), variable("c"))
	checkTokens(t, "a |-- b\n(--) c", variable("a"), oper("|--"), variable("b"), special("("))
}

// P2.1: positions, with tabs.
func TestPositions(t *testing.T) {
	for src, want := range map[string][]api.Token{
		"a\t b":                {at(1, 1, variable("a")), at(1, 10, variable("b"))},
		"\ta":                  {at(1, 9, variable("a"))},
		"1234567\tb":           {at(1, 1, integer(1234567)), at(1, 9, variable("b"))},
		"12345678\tb":          {at(1, 1, integer(12345678)), at(1, 17, variable("b"))},
		"\t\t a":               {at(1, 18, variable("a"))},
		"{-\t-}a":              {at(1, 11, variable("a"))},
		"{-\n-} a\n\n  b":      {at(2, 4, variable("a")), at(4, 3, variable("b"))},
		"a -- \t\nb":           {at(1, 1, variable("a")), at(2, 1, variable("b"))},
		"M.x\"\\n\"'a'(..":     {at(1, 1, named(api.TokVar, "M", "x")), at(1, 4, text("\n")), at(1, 8, character('a')), at(1, 11, special("(")), at(1, 12, symbol(".."))},
		"f  x\n = x":           {at(1, 1, variable("f")), at(1, 4, variable("x")), at(2, 2, symbol("=")), at(2, 4, variable("x"))},
		" M.where":             {at(1, 2, con("M")), at(1, 3, oper(".")), at(1, 4, word("where"))},
		"\n\n\n\t\nlet\n a\tb": {at(5, 1, word("let")), at(6, 2, variable("a")), at(6, 9, variable("b"))},
	} {
		got, fault := Lex(src)
		if fault != (api.Fault{}) || len(got) != len(want) {
			t.Errorf("%q: %v %v", src, got, fault)
			continue
		}
		for i := range got {
			if got[i] != want[i] {
				t.Errorf("%q: %v, want %v", src, got[i], want[i])
			}
		}
	}
}

// P2.1: bytes that are not possible, wherever they are.
func TestImpossibleBytes(t *testing.T) {
	for i := range 256 {
		c := byte(i)
		if c == 9 || c == 10 || 32 <= c && c <= 126 {
			if _, fault := Lex("-- " + string([]byte{c})); fault != (api.Fault{}) {
				t.Errorf("byte %d in a comment: %v", i, fault)
			}
			continue
		}
		bad := string([]byte{c})
		checkFault(t, bad, api.ErrChar, "", 1, 1)
		checkFault(t, "a\n b"+bad, api.ErrChar, "", 2, 3)
		checkFault(t, "-- "+bad+" '", api.ErrChar, "", 1, 4)
		checkFault(t, "{- \n {-\t"+bad, api.ErrChar, "", 2, 9)
		checkFault(t, "\"ab"+bad+"\"", api.ErrChar, "", 1, 4)
		checkFault(t, "\"\\"+bad+"\"", api.ErrChar, "", 1, 3)
		checkFault(t, "\"\\x"+bad+"\"", api.ErrChar, "", 1, 4)
		checkFault(t, "\"\\x4"+bad+"\"", api.ErrChar, "", 1, 5)
		checkFault(t, "'"+bad+"'", api.ErrChar, "", 1, 2)
		checkFault(t, "'a"+bad, api.ErrChar, "", 1, 3)
		checkFault(t, "'\\"+bad, api.ErrChar, "", 1, 3)
		checkFault(t, "12"+bad, api.ErrChar, "", 1, 3)
		checkFault(t, "M."+bad, api.ErrChar, "", 1, 3)
		checkFault(t, "+"+bad, api.ErrChar, "", 1, 2)
	}
}

// P2.1: malformed literals.
func TestMalformedLiterals(t *testing.T) {
	for _, literal := range []string{
		"'", "''", "'''", "'a", "'ab'", "'ab", "'a\n'", "'\n'", "'\t'", "'a\t'", "'\\", "'\\'", "'\\n", "'\\q'", "'\\0'", "'\\X41'", "'\\x'", "'\\x4'", "'\\x4g'", "'\\xg4'", "'\\N'", "'\\\n'", "'\\ '",
		"\"", "\"a", "\"a\n\"", "\"a\tb\"", "\"\\", "\"\\\"", "\"\\q\"", "\"\\x\"", "\"\\x4\"", "\"\\x4g\"", "\"\\xG0\"", "\"\\\n\"", "\"\\a\"", "\"\\1\"", "\"\\t\n",
	} {
		checkFault(t, literal, api.ErrQuote, "", 1, 1)
		checkFault(t, "x\n\t"+literal, api.ErrQuote, "", 2, 9)
		checkFault(t, "x $ "+literal+"\x01", faultBefore(literal), "", 1, columnBefore(literal))
	}
	checkFault(t, "x $ '", api.ErrQuote, "", 1, 5)
	checkFault(t, "'ab\x01'", api.ErrQuote, "", 1, 1)
	checkFault(t, "\"\t\x01\"", api.ErrQuote, "", 1, 1)
	checkFault(t, "\"\\q\x01\"", api.ErrQuote, "", 1, 1)
}

// isOpen reports whether a literal is malformed only because nothing follows it.
func isOpen(literal string) bool {
	switch literal {
	case "'", "'a", "'\\", "'\\'", "'\\n", "\"", "\"a", "\"\\", "\"\\\"":
		return true
	}
	return false
}

func faultBefore(literal string) api.Errno {
	if isOpen(literal) {
		return api.ErrChar
	}
	return api.ErrQuote
}

func columnBefore(literal string) int {
	if isOpen(literal) {
		return 5 + len(literal)
	}
	return 5
}

// P2.1: comments that are not closed.
func TestOpenComments(t *testing.T) {
	for _, comment := range []string{"{-", "{- ", "{-}", "{- -", "{- {- -}", "{-- -", "{- -\n}", "{-{--}", "{- \" '"} {
		checkFault(t, comment, api.ErrComment, "", 1, 1)
		checkFault(t, "a\n  "+comment, api.ErrComment, "", 2, 3)
		checkFault(t, "a "+comment+"\x7f", api.ErrChar, "", strings.Count(comment, "\n")+1, columnAfter("a "+comment))
	}
}

func columnAfter(s string) int { return len(s) - strings.LastIndexByte(s, '\n') }

// P2.1: numbers, names and strings that are too long.
func TestTooLong(t *testing.T) {
	for _, n := range []string{"9223372036854775808", "9223372036854775810", "10000000000000000000", "18446744073709551617", "00009223372036854775808", strings.Repeat("1", 500)} {
		checkFault(t, n, api.ErrNumber, "", 1, 1)
		checkFault(t, "a "+n+"\x01", api.ErrNumber, "", 1, 3)
	}
	lower, upper, plus := strings.Repeat("a", 64), strings.Repeat("A", 64), strings.Repeat("+", 64)
	minus := strings.Repeat("-", 64)
	checkTokens(t, lower+" "+upper+" "+plus, variable(lower), con(upper), oper(plus))
	checkTokens(t, upper+"."+lower, named(api.TokVar, upper, lower))
	checkTokens(t, "M."+plus, named(api.TokOp, "M", plus))
	checkTokens(t, "M."+minus[1:], con("M"), oper("."+minus[1:]))
	checkTokens(t, minus+"-")
	for src, name := range map[string]string{
		lower + "b": lower, upper + "b": upper, plus + "-": plus, minus + ">": minus, minus + "->": minus, ":" + plus: ":" + plus[:63],
		"M." + lower + "b": lower, "M." + upper + "b": upper, "M." + plus + "-": plus, "M." + minus + "->": minus,
		upper + "A.x": upper, upper + "A.+": upper, upper + "A." + lower + "b": upper, upper + "A.where": upper, upper + "A.": upper, upper + "A": upper,
		lower + "b\x01": lower, "M." + lower + "b\x01": lower,
	} {
		checkFault(t, src, api.ErrLong, name, 1, 1)
		checkFault(t, "a\n "+src, api.ErrLong, name, 2, 2)
	}
	checkFault(t, "M."+minus, api.ErrLong, "."+minus[1:], 1, 2)
	checkFault(t, "M."+strings.Repeat(".", 65), api.ErrLong, strings.Repeat(".", 64), 1, 1)
}

// P2.1: strings that are too long: the leftmost byte that makes a fault certain decides.
func TestLongStrings(t *testing.T) {
	full := "\"" + strings.Repeat("a", 200)
	for rest, code := range map[string]api.Errno{"a\"": api.ErrLong, "a": api.ErrLong, "a\n": api.ErrLong, "a\x01": api.ErrLong, "\\n\"": api.ErrLong, "\\x41": api.ErrLong, "": api.ErrQuote, "\n": api.ErrQuote, "\t": api.ErrQuote, "\\q": api.ErrQuote, "\\x4\"": api.ErrQuote} {
		checkFault(t, full+rest, code, "", 1, 1)
		checkFault(t, " "+full+rest, code, "", 1, 2)
	}
	checkFault(t, full+"\x01", api.ErrChar, "", 1, 202)
	checkFault(t, full+"\\\x01", api.ErrChar, "", 1, 203)
	checkFault(t, "\""+strings.Repeat("a", 201)+"\"", api.ErrLong, "", 1, 1)
}

// P2.1: the limits of a source.
func TestSourceLimits(t *testing.T) {
	checkTokens(t, strings.Repeat(" ", api.MaxSource))
	checkFault(t, strings.Repeat(" ", api.MaxSource+1), api.ErrLong, "", 0, 0)
	checkFault(t, strings.Repeat("\x01", api.MaxSource+1), api.ErrLong, "", 0, 0)
	checkFault(t, "'"+strings.Repeat("a", api.MaxSource), api.ErrLong, "", 0, 0)
	most := strings.Repeat("a ", api.MaxTokens)
	for _, src := range []string{most, most + "-- b", most + "{- b -}\n"} {
		if toks, fault := Lex(src); len(toks) != api.MaxTokens || fault != (api.Fault{}) {
			t.Error(len(toks), fault)
		}
	}
	checkFault(t, most+"\n b", api.ErrLong, "", 2, 2)
	checkFault(t, most+"\n b \x01", api.ErrLong, "", 2, 2)
	checkFault(t, most+"(", api.ErrLong, "", 1, 2*api.MaxTokens+1)
	checkFault(t, most+"\n '", api.ErrQuote, "", 2, 2)
	checkFault(t, most+"\n99999999999999999999", api.ErrNumber, "", 2, 1)
	checkFault(t, most+"\n"+strings.Repeat("b", 65), api.ErrLong, strings.Repeat("b", 64), 2, 1)
	checkFault(t, most+"\n \x01", api.ErrChar, "", 2, 2)
	checkFault(t, most+"\n {-", api.ErrComment, "", 2, 2)
}

// P2.1: the first fault is returned.
func TestFirstFault(t *testing.T) {
	checkFault(t, "' \x01", api.ErrChar, "", 1, 3)
	checkFault(t, "99999999999999999999 '", api.ErrNumber, "", 1, 1)
	checkFault(t, "'ab' 99999999999999999999", api.ErrQuote, "", 1, 1)
	checkFault(t, "a \x01 '", api.ErrChar, "", 1, 3)
	checkFault(t, "a {- \x01 -} '", api.ErrChar, "", 1, 6)
	checkFault(t, "a {- -} ' {-", api.ErrQuote, "", 1, 9)
	checkFault(t, "a -- '\n{- '", api.ErrComment, "", 2, 1)
}
