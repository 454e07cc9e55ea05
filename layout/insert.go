package layout

import (
	"slices"

	"lazyc/api"
)

// Insert returns the tokens with the braces and semicolons that the layout implies.
func Insert(toks []api.Token) ([]api.Token, api.Fault) {
	if slices.ContainsFunc(toks, isInserted) {
		return nil, api.Fault{Code: api.ErrArg}
	}
	in := &inserter{expected: true}
	for i, tok := range toks {
		if !in.token(tok, i > 0 && tok.Line > toks[i-1].Line) {
			return nil, faultAt(tok)
		}
	}
	if !in.end() {
		return nil, faultAt(toks[len(toks)-1])
	}
	if len(in.out) > api.MaxTokens {
		return nil, api.Fault{Code: api.ErrLong}
	}
	return in.out, api.Fault{}
}

// faultAt returns the fault of a token that the layout makes impossible.
func faultAt(tok api.Token) api.Fault {
	return api.Fault{Code: api.ErrLayout, Name: tok.Text, Line: tok.Line, Col: tok.Col}
}

// inserter inserts braces and semicolons. Where its methods report whether they succeed, false means ErrLayout.
type inserter struct {
	stack    stack
	out      []api.Token
	expected bool   // whether a block is expected
	word     string // the word before the block that is expected, or ""
}

func (in *inserter) insert(text string) {
	in.out = append(in.out, api.Token{Op: api.TokSpecial, Text: text, Auto: true})
}

// token processes one token.
func (in *inserter) token(tok api.Token, firstOfLine bool) bool {
	word := in.word
	if in.expected && in.begin(tok) {
		firstOfLine = false
	}
	in.expected, in.word = false, ""
	if firstOfLine && !in.line(tok.Col) {
		return false
	}
	in.item(tok)
	if !in.bracket(tok, word) || !in.keyword(tok) {
		return false
	}
	in.out = append(in.out, tok)
	return true
}

// begin begins the block that is expected before tok, and reports whether tok is its first token.
func (in *inserter) begin(tok api.Token) bool {
	if isSpecial(tok, "{") {
		return true
	}
	if in.word == "" && isWord(tok, "module") {
		return false
	}
	column := 0
	if block := in.stack.implicitBlock(); block != nil {
		column = block.column
	}
	in.insert("{")
	if tok.Col > column {
		in.stack.push(element{kind: implicit, column: tok.Col, word: in.word})
		return true
	}
	in.insert("}")
	in.closed(in.word)
	return false
}

// closed notes that a block after the given word has been closed: a let then waits for its in.
func (in *inserter) closed(word string) {
	if word == "let" {
		in.stack.push(element{kind: pendingLet})
	}
}

// line closes the blocks that a new line at a column ends, or begins a new item.
func (in *inserter) line(column int) bool {
	for {
		block := in.stack.implicitBlock()
		if block == nil || column > block.column {
			return true
		}
		if column == block.column {
			in.insert(";")
			block.marked = false
			return true
		}
		if !in.closeBlock(isOf(implicit)) {
			return false
		}
	}
}

// item forgets what a new item cannot continue.
func (in *inserter) item(tok api.Token) {
	if len(in.out) == 0 || !isSpecial(in.out[len(in.out)-1], ";") {
		return
	}
	if !isWord(tok, "then") && !isWord(tok, "else") && !isSpecial(tok, ";") {
		in.stack.dropPending()
	}
}

// isOf returns the condition that an element is of a kind.
func isOf(wanted kind) func(element) bool {
	return func(e element) bool { return e.kind == wanted }
}

// closeTo removes the topmost element that is wanted and everything above it, and returns that element.
func (in *inserter) closeTo(wanted func(element) bool) (element, bool) {
	at := in.stack.find(wanted)
	if at < 0 {
		return element{}, false
	}
	for {
		e := in.stack.pop()
		if e.kind == implicit {
			in.insert("}")
		}
		if len(in.stack.elements) == at {
			return e, true
		}
	}
}

// closeBlock is closeTo for blocks, and for what is closed in the same way.
func (in *inserter) closeBlock(wanted func(element) bool) bool {
	e, ok := in.closeTo(wanted)
	in.closed(e.word)
	return ok
}

// bracket processes what a special token or an = means for the blocks. word is the one directly before a block that begins with tok.
func (in *inserter) bracket(tok api.Token, word string) bool {
	if tok.Op == api.TokSym && tok.Text == "=" {
		in.mark(true)
	}
	if tok.Op != api.TokSpecial {
		return true
	}
	switch tok.Text {
	case "(":
		in.stack.push(element{kind: parenthesis})
	case "[":
		in.stack.push(element{kind: bracket})
	case "{":
		in.stack.push(element{kind: explicit, word: word})
	case ")":
		return in.closeBlock(isOf(parenthesis))
	case "]":
		return in.closeBlock(isOf(bracket))
	case "}":
		return in.closeBlock(isOf(explicit))
	case ",":
		in.comma()
	case ";":
		in.mark(false)
	}
	return true
}

// mark notes whether an = has occurred in the present item.
func (in *inserter) mark(marked bool) {
	if block := in.stack.implicitContext(); block != nil {
		block.marked = marked
	}
}

// comma closes the blocks in which a comma is not possible, if it may belong to a context around them.
func (in *inserter) comma() {
	closes := func(e element) bool { return e.word == "do" || e.word == "of" || e.marked }
	for in.stack.written > 0 {
		block := in.stack.implicitContext()
		if block == nil || !closes(*block) {
			return
		}
		in.closeBlock(isOf(implicit))
	}
}

// keyword processes what a word means for the blocks and for the words that wait for others.
func (in *inserter) keyword(tok api.Token) bool {
	if tok.Op != api.TokWord {
		return true
	}
	ok := true
	switch tok.Text {
	case "case":
		in.stack.push(element{kind: pendingCase})
	case "if":
		in.stack.push(element{kind: pendingIf})
	case "of":
		_, ok = in.closeTo(isOf(pendingCase))
	case "then":
		_, ok = in.closeTo(isOf(pendingIf))
		in.stack.push(element{kind: pendingThen})
	case "else":
		_, ok = in.closeTo(isOf(pendingThen))
	case "in":
		_, ok = in.closeTo(func(e element) bool {
			return e.kind == pendingLet || e.kind == implicit && e.word == "let"
		})
	}
	if opensBlock(tok) {
		in.expected, in.word = true, tok.Text
	}
	return ok
}

// end closes the blocks that are left.
func (in *inserter) end() bool {
	if in.expected {
		in.insert("{")
		in.insert("}")
	}
	inside := false // whether a parenthesis or bracket is open above
	for len(in.stack.elements) > 0 {
		switch in.stack.pop().kind {
		case parenthesis, bracket:
			inside = true
		case implicit:
			if inside {
				return false
			}
			in.insert("}")
		}
	}
	return true
}
