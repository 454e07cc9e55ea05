package types

import (
	"slices"

	"lazyc/api"
)

// Parse returns the type with the text.
func Parse(s string) (api.Type, api.Fault) { return parse(s, (*parser).typ, Check) }

// ParseKind returns the kind with the text.
func ParseKind(s string) (api.Kind, api.Fault) { return parse(s, (*parser).kind, checkKind) }

// ParseScheme returns the scheme with the text.
func ParseScheme(s string) (api.Scheme, api.Fault) { return parse(s, (*parser).scheme, checkScheme) }

// parse reads a whole text, and checks what it has read.
func parse[T any](s string, read func(*parser) T, check func(T) api.Errno) (result T, fault api.Fault) {
	var none T
	if len(s) > api.MaxSource {
		return none, api.Fault{Code: api.ErrLong}
	}
	defer func() {
		if recover() != nil {
			result, fault = none, api.Fault{Code: api.ErrForm}
		}
	}()
	toks, ok := tokensOf(s)
	p := &parser{toks: toks}
	p.require(ok)
	result = read(p)
	p.require(len(p.toks) == 0)
	if code := check(result); code != api.OK {
		return none, api.Fault{Code: code}
	}
	return result, api.Fault{}
}

// parser reads types, kinds and schemes. Its methods panic where the text is not possible.
type parser struct {
	toks []string // the tokens that are left
}

// require panics unless the text is possible so far.
func (p *parser) require(possible bool) {
	if !possible {
		panic(api.ErrForm)
	}
}

// peek returns the next token, or an empty string at the end.
func (p *parser) peek() string {
	if len(p.toks) == 0 {
		return ""
	}
	return p.toks[0]
}

// next returns the next token, and skips it.
func (p *parser) next() string {
	tok := p.peek()
	p.require(tok != "")
	p.toks = p.toks[1:]
	return tok
}

// accept skips the next token if it is the given one.
func (p *parser) accept(tok string) bool {
	if p.peek() != tok {
		return false
	}
	p.toks = p.toks[1:]
	return true
}

func (p *parser) expect(tok string) { p.require(p.accept(tok)) }

// listOf reads elements separated by commas, and the bracket behind them.
func listOf[T any](p *parser, read func() T, end string) []T {
	list := []T{read()}
	for p.accept(",") {
		list = append(list, read())
	}
	p.expect(end)
	return list
}

func (p *parser) scheme() api.Scheme {
	var s api.Scheme
	if p.accept(forallWord) {
		s.Vars = p.binders()
	}
	// Only the arrow behind it tells a context from the beginning of a type.
	if slices.Contains(p.toks, "=>") {
		s.Preds = p.context()
		p.expect("=>")
	}
	s.Type = p.typ()
	return s
}

// binders reads binders, and the point behind them.
func (p *parser) binders() []api.TyVar {
	list := []api.TyVar{p.binder()}
	for !p.accept(".") {
		list = append(list, p.binder())
	}
	return list
}

func (p *parser) binder() api.TyVar {
	if !p.accept("(") {
		return api.TyVar{Name: p.varName()}
	}
	name := p.varName()
	p.expect("::")
	k := p.kind()
	p.expect(")")
	return api.TyVar{Name: name, Kind: k}
}

func (p *parser) varName() string {
	name := p.next()
	p.require(isVarName(name))
	return name
}

func (p *parser) context() []api.Pred {
	if !p.accept("(") {
		return []api.Pred{p.pred()}
	}
	if p.accept(")") {
		return nil
	}
	return listOf(p, p.pred, ")")
}

func (p *parser) pred() api.Pred {
	class := p.next()
	p.require(isDeclaredName(class))
	return api.Pred{Class: class, Type: p.atype()}
}

func (p *parser) typ() api.Type {
	if p.accept(forallWord) {
		return p.quantification()
	}
	t := p.btype()
	if p.accept(arrowName) {
		return apply(con(arrowName), t, p.typ())
	}
	return t
}

// quantification reads what follows forall.
func (p *parser) quantification() api.Type {
	binders := p.binders()
	t := p.typ()
	for _, b := range slices.Backward(binders) {
		t = api.Type{Op: api.TForall, Name: b.Name, Bound: b.Kind, Kids: []api.Type{t}}
	}
	return t
}

func (p *parser) btype() api.Type {
	t := p.atype()
	for p.beginsType() {
		t = apply(t, p.atype())
	}
	return t
}

// beginsType reports whether the next token begins an atype.
func (p *parser) beginsType() bool {
	tok := p.peek()
	return tok == "(" || tok == "[" || isVarName(tok) || isPlainName(tok)
}

// isPlainName reports whether a type constructor with the name is written without parentheses.
func isPlainName(s string) bool { return isDeclaredName(s) && !isOperatorName(s) }

func (p *parser) atype() api.Type {
	p.require(p.beginsType())
	switch tok := p.next(); {
	case tok == "(":
		return p.parenthesized()
	case tok == "[":
		return p.bracketed()
	case isVarName(tok):
		return variable(tok)
	default:
		return con(tok)
	}
}

// bracketed reads what follows an opening bracket.
func (p *parser) bracketed() api.Type {
	if p.accept("]") {
		return con(listName)
	}
	t := p.typ()
	p.expect("]")
	return apply(con(listName), t)
}

// parenthesized reads what follows an opening parenthesis.
func (p *parser) parenthesized() api.Type {
	tok := p.peek()
	switch {
	case p.accept(")"):
		return con(unitName)
	case tok == ",":
		return con(p.tupleName())
	case tok == arrowName || isDeclaredName(tok) && isOperatorName(tok):
		p.next()
		p.expect(")")
		return con(tok)
	}
	parts := listOf(p, p.typ, ")")
	if len(parts) == 1 {
		return parts[0]
	}
	p.require(len(parts) <= api.MaxTuple)
	return apply(con(tupleName(len(parts))), parts...)
}

// tupleName reads the commas of a tuple constructor, and the parenthesis behind them.
func (p *parser) tupleName() string {
	size := 1
	for p.accept(",") {
		size++
	}
	p.expect(")")
	p.require(size <= api.MaxTuple)
	return tupleName(size)
}

// kind reads a kind in a loop, because a recursion for each arrow would copy the arguments again and again.
func (p *parser) kind() api.Kind {
	var args []api.Kind
	for {
		k := p.akind()
		if !p.accept(arrowName) {
			return api.Kind{Args: append(args, k.Args...)}
		}
		args = append(args, k)
	}
}

func (p *parser) akind() api.Kind {
	if p.accept("*") {
		return api.Kind{}
	}
	p.expect("(")
	k := p.kind()
	p.expect(")")
	return k
}
