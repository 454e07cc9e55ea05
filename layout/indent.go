package layout

import (
	"lazyc/api"
	"lazyc/lexer"
)

// Indent returns a source whose layout implies the braces and semicolons of the given tokens.
func Indent(toks []api.Token) (string, api.Errno) {
	src, code := lexer.Render(indented(toks, implied(toks)))
	if code != api.OK {
		return "", code
	}
	if !means(src, toks) {
		return "", api.ErrForm
	}
	return src, api.OK
}

// means reports whether a source has the tokens, with those that its layout implies.
func means(src string, toks []api.Token) bool {
	got, fault := lexer.Lex(src)
	if fault != (api.Fault{}) {
		return false
	}
	got, fault = Insert(got)
	return fault == (api.Fault{}) && lexer.Same(Explicit(got), Explicit(toks))
}

// implied tells of each token whether it is a brace or a semicolon that Indent leaves to the layout.
func implied(toks []api.Token) []bool {
	marks := make([]bool, len(toks))
	markPairs(toks, marks)
	open := []int{} // the { around the present token
	for i, tok := range toks {
		switch {
		case isSpecial(tok, "{"):
			open = append(open, i)
		case isSpecial(tok, "}") && len(open) > 0:
			open = open[:len(open)-1]
		case isSpecial(tok, ";") && len(open) > 0:
			marks[i] = marks[open[len(open)-1]]
		}
	}
	return marks
}

// markPairs marks the braces of the layout pairs.
func markPairs(toks []api.Token, marks []bool) {
	open := []int{} // the { without a matching } so far
	for i, tok := range toks {
		switch {
		case isSpecial(tok, "{"):
			open = append(open, i)
		case isSpecial(tok, "}") && len(open) > 0:
			begin := open[len(open)-1]
			open = open[:len(open)-1]
			isPair := begin == 0 || opensBlock(toks[begin-1])
			marks[begin], marks[i] = isPair, isPair
		}
	}
}

// indented returns the tokens that are not implied, at positions that imply the others.
func indented(toks []api.Token, implied []bool) []api.Token {
	var out []api.Token
	line, depth := 1, 0
	before := "" // the last token before the present one, if it is implied
	for i, tok := range toks {
		if implied[i] {
			before = tok.Text
			depth += nesting(before)
			continue
		}
		tok.Line, tok.Col = 0, 0
		if before != "" {
			if len(out) > 0 {
				line++
			}
			tok.Line, tok.Col = line, columnAfter(before, depth)
		}
		before = ""
		out = append(out, tok)
	}
	return out
}

// nesting returns by how much a brace or semicolon changes the number of blocks around the next token.
func nesting(text string) int {
	switch text {
	case "{":
		return 1
	case "}":
		return -1
	}
	return 0
}

// columnAfter returns the column of the first token of a line after an implied token, inside of depth blocks. The even columns are those of tokens that continue an item.
func columnAfter(text string, depth int) int {
	if text == "}" {
		return max(1, 2*depth)
	}
	return 2*depth - 1
}
