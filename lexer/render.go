package lexer

import (
	"strconv"
	"strings"

	"lazyc/api"
	"lazyc/names"
)

// What Render writes at most to reach the position of a token.
const (
	maxFeeds  = 200
	maxColumn = 1000
)

// Render returns a source with the tokens, each on the position that its line and column give where that is possible.
func Render(toks []api.Token) (string, api.Errno) {
	for _, tok := range toks {
		if !isTokenPrintable(tok) {
			return "", api.ErrArg
		}
	}
	if len(toks) > api.MaxTokens {
		return "", api.ErrLong
	}
	w := writer{line: 1, col: 1, first: true}
	for _, tok := range toks {
		w.token(tok)
		if w.out.Len() > api.MaxSource {
			return "", api.ErrLong
		}
	}
	return w.out.String(), api.OK
}

// writer writes a source. line and col are the next free position; first tells that the line has no token yet.
type writer struct {
	out       strings.Builder
	line, col int
	first     bool
}

func (w *writer) token(tok api.Token) {
	if tok.Line > w.line {
		feeds := min(tok.Line-w.line, maxFeeds)
		w.out.WriteString(strings.Repeat("\n", feeds))
		w.line += feeds
		w.col, w.first = 1, true
	}
	if tok.Col > w.col && tok.Col <= maxColumn {
		w.text(strings.Repeat(" ", tok.Col-w.col))
	} else if !w.first {
		w.text(" ")
	}
	w.text(textOf(tok))
	w.first = false
}

// text writes a text without tabs and line feeds.
func (w *writer) text(s string) {
	w.out.WriteString(s)
	w.col += len(s)
}

// textOf returns the text of a printable token.
func textOf(tok api.Token) string {
	switch {
	case tok.Op == api.TokInt:
		return strconv.Itoa(tok.N)
	case tok.Op == api.TokChar:
		return QuoteChar(tok.N)
	case tok.Op == api.TokString:
		return Quote(tok.Text)
	case tok.Qual != "":
		return tok.Qual + "." + tok.Text
	}
	return tok.Text
}

// isTokenPrintable reports whether Lex may return such a token.
func isTokenPrintable(tok api.Token) bool {
	switch tok.Op {
	case api.TokInt:
		return tok.Qual == "" && tok.Text == "" && tok.N >= 0
	case api.TokChar:
		return tok.Qual == "" && tok.Text == "" && tok.N >= 0 && tok.N <= api.MaxChar
	case api.TokString:
		return tok.Qual == "" && tok.N == 0 && len(tok.Text) <= api.MaxString
	case api.TokSpecial:
		return tok.Qual == "" && tok.N == 0 && len(tok.Text) == 1 && strings.Contains(specials, tok.Text)
	case api.TokWord, api.TokSym:
		return tok.Qual == "" && tok.N == 0 && opOf(tok.Text) == tok.Op
	case api.TokVar, api.TokCon, api.TokOp, api.TokConOp:
		return isQualifier(tok.Qual) && tok.N == 0 && opOf(tok.Text) == tok.Op
	}
	return false
}

// isQualifier reports whether s is possible as the qualifier of a token.
func isQualifier(s string) bool { return s == "" || names.Classify(s) == api.NameCon }

// Same reports whether two sequences of tokens differ at most in their positions.
func Same(a, b []api.Token) bool {
	if len(a) != len(b) {
		return false
	}
	for i := range a {
		if withoutPosition(a[i]) != withoutPosition(b[i]) {
			return false
		}
	}
	return true
}

func withoutPosition(tok api.Token) api.Token {
	tok.Auto, tok.Line, tok.Col = false, 0, 0
	return tok
}
