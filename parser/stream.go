package parser

import (
	"lazyc/api"
	"lazyc/lexer"
)

// parser reads tokens. Its methods panic at a token that is not possible.
type parser struct {
	toks []api.Token
	at   int // the index of the next token
	// far is the greatest index of a token that was not possible. A token is an error only if no way to read the text gets past it, so the way that got furthest decides.
	far int
	odd oddFunction
}

// oddFunction is the first function, by the index of its first token, whose clauses have different numbers of patterns.
type oddFunction struct {
	name  string
	start int
}

// attempt reads something, or goes back to where it began if that is not possible.
func attempt[T any](p *parser, read func() T) (result T, ok bool) {
	start := p.at
	defer func() {
		if recover() != nil {
			p.at = start
		}
	}()
	result = read()
	return result, true
}

// separated reads elements with separators in between.
func separated[T any](p *parser, separator string, read func() T) []T {
	list := []T{read()}
	for p.accepts(separator) {
		list = append(list, read())
	}
	return list
}

// listed reads elements between brackets, separated by commas, or none.
func listed[T any](p *parser, open, end string, read func() T) []T {
	p.expect(open)
	if p.accepts(end) {
		return nil
	}
	list := separated(p, ",", read)
	p.expect(end)
	return list
}

// block reads the items of a block. Between two semicolons there may be nothing.
func block[T any](p *parser, read func() T) []T {
	var list []T
	p.expect("{")
	separated(p, ";", func() bool {
		there := !p.sees(";") && !p.sees("}")
		if there {
			list = append(list, read())
		}
		return there
	})
	p.expect("}")
	return list
}

// fail leaves a text in which the next token is not possible.
func (p *parser) fail() {
	p.far = max(p.far, p.at)
	panic(api.ErrSyntax)
}

func (p *parser) require(possible bool) {
	if !possible {
		p.fail()
	}
}

// fault returns the fault of a text that is not possible.
func (p *parser) fault() api.Fault {
	if p.far == len(p.toks) {
		return api.Fault{Code: api.ErrEnd}
	}
	tok := p.toks[p.far]
	return api.Fault{Code: api.ErrSyntax, Name: textOf(tok), Line: tok.Line, Col: tok.Col}
}

// textOf returns the text of a token: all that Render writes for a single one without a position.
func textOf(tok api.Token) string {
	tok.Line, tok.Col = 0, 0
	text, _ := lexer.Render([]api.Token{tok})
	return text
}

// peek returns the token that is n places behind the next one, or the zero token if there is none.
func (p *parser) peek(n int) api.Token {
	if p.at+n >= len(p.toks) {
		return api.Token{}
	}
	return p.toks[p.at+n]
}

// seesAt reports whether a token is a word, sign or bracket of the grammar.
func (p *parser) seesAt(n int, text string) bool {
	tok := p.peek(n)
	switch tok.Op {
	case api.TokSpecial, api.TokWord, api.TokSym:
		return tok.Text == text
	}
	return false
}

func (p *parser) sees(text string) bool { return p.seesAt(0, text) }

// accepts skips the next token if it is the given one.
func (p *parser) accepts(text string) bool {
	if !p.sees(text) {
		return false
	}
	p.at++
	return true
}

func (p *parser) expect(text string) { p.require(p.accepts(text)) }

// inserted skips a token that the layout algorithm must have inserted.
func (p *parser) inserted(text string) {
	p.require(p.peek(0).Auto)
	p.expect(text)
}

// take skips a token of a class, and returns it.
func (p *parser) take(op api.TokenOp) api.Token {
	tok := p.peek(0)
	p.require(tok.Op == op)
	p.at++
	return tok
}
