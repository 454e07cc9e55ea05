// Package lexer is layer 2, tokens of a source: see shared/doc/02-lexer.md.
package lexer

import (
	"strings"

	"lazyc/api"
	"lazyc/chars"
	"lazyc/names"
)

// specials are the characters that are tokens by themselves.
const specials = "()[]{},;`"

// Lex returns the tokens of a source.
func Lex(src string) ([]api.Token, api.Fault) {
	if len(src) > api.MaxSource {
		return nil, api.Fault{Code: api.ErrLong}
	}
	s := &scanner{src: src, here: place{line: 1, col: 1}}
	s.scan()
	if s.fault != (api.Fault{}) {
		return nil, s.fault
	}
	return s.toks, api.Fault{}
}

// place is a place of a source: the index of a byte, and its position.
type place struct {
	at, line, col int
}

// scanner divides a source into units. begin is where the present unit begins, here is the byte that is examined next.
type scanner struct {
	src         string
	begin, here place
	toks        []api.Token
	fault       api.Fault
}

// scan reads all units, up to the first fault. The states that read a unit report whether it has no fault.
func (s *scanner) scan() {
	var tok api.Token
	var ok bool
next:
	s.begin = s.here
	switch c := s.peek(0); {
	case s.ended():
		return
	case c == ' ' || c == '\t' || c == '\n':
		s.skip(1)
		goto next
	case c == '{' && s.peek(1) == '-':
		goto comment
	case chars.OnlyMinus(s.run(chars.IsSymbol)):
		goto line
	case chars.IsStart(c):
		goto identifier
	case chars.IsSymbol(c):
		goto symbols
	case chars.IsDigit(c):
		goto digits
	case c == '\'':
		goto character
	case c == '"':
		goto text
	case strings.IndexByte(specials, c) >= 0:
		goto special
	}
	s.failHere()
	return
comment:
	ok = s.comment()
	goto skipped
line:
	ok = s.line()
	goto skipped
identifier:
	tok, ok = s.identifier()
	goto check
symbols:
	tok, ok = s.name("", s.here.at)
	goto check
digits:
	tok, ok = s.integer()
	goto check
character:
	tok, ok = s.character()
	goto check
text:
	tok, ok = s.text()
	goto check
special:
	tok, ok = s.special()
check:
	ok = ok && s.accept(tok)
skipped:
	if ok {
		goto next
	}
}

// ended reports whether all bytes have been examined.
func (s *scanner) ended() bool { return s.here.at == len(s.src) }

// peek returns the byte that is k bytes ahead, or 0, which is no byte of a unit, behind the end.
func (s *scanner) peek(k int) byte {
	if s.here.at+k >= len(s.src) {
		return 0
	}
	return s.src[s.here.at+k]
}

// skip advances by n bytes.
func (s *scanner) skip(n int) {
	for ; n > 0; n-- {
		switch s.src[s.here.at] {
		case '\n':
			s.here.line++
			s.here.col = 1
		case '\t':
			s.here.col += 8 - (s.here.col-1)%8
		default:
			s.here.col++
		}
		s.here.at++
	}
}

// run returns the longest sequence of bytes of one kind from here on.
func (s *scanner) run(is func(byte) bool) string { return chars.Run(s.src, s.here.at, is) }

// fail records a fault of the present unit; it returns false, as the states do then.
func (s *scanner) fail(code api.Errno, name string) bool {
	s.fault = api.Fault{Code: code, Name: name, Line: s.begin.line, Col: s.begin.col}
	return false
}

// failHere records that the byte here is not possible.
func (s *scanner) failHere() bool {
	s.fault = api.Fault{Code: api.ErrChar, Line: s.here.line, Col: s.here.col}
	return false
}

// accept appends a token.
func (s *scanner) accept(tok api.Token) bool {
	if len(s.toks) == api.MaxTokens {
		return s.fail(api.ErrLong, "")
	}
	tok.Line, tok.Col = s.begin.line, s.begin.col
	s.toks = append(s.toks, tok)
	return true
}

// isSourceByte reports whether c is possible in a source.
func isSourceByte(c byte) bool { return c == '\t' || c == '\n' || isPrintable(c) }

// isPrintable reports whether c stands for itself in a source.
func isPrintable(c byte) bool { return 32 <= c && c <= 126 }

// comment skips a nested comment.
func (s *scanner) comment() bool {
	depth := 0
	for !s.ended() {
		switch c := s.peek(0); {
		case c == '{' && s.peek(1) == '-':
			depth++
			s.skip(2)
		case c == '-' && s.peek(1) == '}':
			depth--
			s.skip(2)
		case !isSourceByte(c):
			return s.failHere()
		default:
			s.skip(1)
		}
		if depth == 0 {
			return true
		}
	}
	return s.fail(api.ErrComment, "")
}

// line skips the rest of the line.
func (s *scanner) line() bool {
	for !s.ended() && s.peek(0) != '\n' {
		if !isSourceByte(s.peek(0)) {
			return s.failHere()
		}
		s.skip(1)
	}
	return true
}

// identifier reads an identifier, or a qualified name.
func (s *scanner) identifier() (api.Token, bool) {
	first := s.run(chars.IsWord)
	point := s.here.at + len(first)
	if !chars.IsUpper(first[0]) || point == len(s.src) || s.src[point] != '.' || !isQualified(chars.NameAt(s.src, point+1)) {
		return s.name("", s.here.at)
	}
	if len(first) > api.MaxName {
		return api.Token{}, s.fail(api.ErrLong, first[:api.MaxName])
	}
	return s.name(first, point+1)
}

// isQualified reports whether text, after a module and a point, is part of a qualified name.
func isQualified(text string) bool {
	class := names.Classify(text)
	return text != "" && class != api.NameWord && class != api.NameSym && !chars.OnlyMinus(text)
}

// name reads the name from a byte on, with what comes before it in its unit.
func (s *scanner) name(qual string, from int) (api.Token, bool) {
	text := chars.NameAt(s.src, from)
	if len(text) > api.MaxName {
		return api.Token{}, s.fail(api.ErrLong, text[:api.MaxName])
	}
	s.skip(from + len(text) - s.here.at)
	return api.Token{Op: opOf(text), Qual: qual, Text: text}, true
}

// opOf returns the class of the token that a name, a reserved word or a reserved operator is, and otherwise 0.
func opOf(text string) api.TokenOp {
	switch names.Classify(text) {
	case api.NameVar:
		return api.TokVar
	case api.NameCon:
		return api.TokCon
	case api.NameOper:
		return api.TokOp
	case api.NameConOper:
		return api.TokConOp
	case api.NameWord:
		return api.TokWord
	case api.NameSym:
		return api.TokSym
	}
	return 0
}

// special reads a special character.
func (s *scanner) special() (api.Token, bool) {
	s.skip(1)
	return api.Token{Op: api.TokSpecial, Text: s.src[s.begin.at:s.here.at]}, true
}

// integer reads an integer literal.
func (s *scanner) integer() (api.Token, bool) {
	n := 0
	for ; chars.IsDigit(s.peek(0)); s.skip(1) {
		digit := int(s.peek(0) - '0')
		if n > (api.MaxInt-digit)/10 {
			return api.Token{}, s.fail(api.ErrNumber, "")
		}
		n = 10*n + digit
	}
	return api.Token{Op: api.TokInt, N: n}, true
}
