package parser

import (
	"lazyc/api"
	"lazyc/types"
)

// typ reads a type, as far as it extends.
func (p *parser) typ() api.Type {
	t := p.appType()
	if !p.accepts("->") {
		return t
	}
	return apply(typeCon("->"), t, p.typ())
}

// appType reads a type constructor with its arguments.
func (p *parser) appType() api.Type {
	return apply(p.atomType(), p.atomTypes()...)
}

// atomTypes reads as many arguments as there are.
func (p *parser) atomTypes() []api.Type {
	var list []api.Type
	for p.beginsType() {
		list = append(list, p.atomType())
	}
	return list
}

func (p *parser) beginsType() bool {
	return p.peek(0).Op == api.TokCon || p.seesTypeVar() || p.sees("(") || p.sees("[")
}

func (p *parser) atomType() api.Type {
	switch {
	case p.seesTypeVar():
		return p.typeVar()
	case p.begins(anyConstructors()):
		return typeCon(p.anyConstructor())
	case p.accepts("["):
		return p.listType()
	case p.sees("(") && p.seesAt(1, ","):
		return typeCon(p.commas())
	}
	p.expect("(")
	switch {
	case p.accepts(")"):
		return typeCon("()")
	case p.accepts("->"):
		p.expect(")")
		return typeCon("->")
	}
	return p.tupleType()
}

// listType reads what follows the bracket of a list type.
func (p *parser) listType() api.Type {
	list := typeCon("[]")
	if p.accepts("]") {
		return list
	}
	t := p.typ()
	p.expect("]")
	return apply(list, t)
}

// tupleType reads the components of a tuple type and its bracket, or a type in parentheses.
func (p *parser) tupleType() api.Type {
	parts := separated(p, ",", p.typ)
	p.expect(")")
	if len(parts) == 1 {
		return parts[0]
	}
	return apply(typeCon(tupleName(len(parts))), parts...)
}

// seesTypeVar reports whether the next token is a type variable. No type begins with forall here.
func (p *parser) seesTypeVar() bool {
	return p.isName(0, api.TokVar, false) && p.peek(0).Text != "forall"
}

func (p *parser) typeVar() api.Type {
	return api.Type{Op: api.TVar, Name: p.typeVarName()}
}

func (p *parser) typeVarName() string {
	p.require(p.seesTypeVar())
	return p.plainName(api.TokVar, false)
}

func typeCon(name string) api.Type { return api.Type{Op: api.TCon, Name: name} }

// apply returns an application that consists of the given types themselves.
func apply(t api.Type, args ...api.Type) api.Type {
	for _, arg := range args {
		t = api.Type{Op: api.TApp, Kids: []api.Type{t, arg}}
	}
	return t
}

// copyOf returns a copy that shares no memory with t.
func copyOf(t api.Type) api.Type { return types.Apply(t) }

// qualifiedType reads a type with its context.
func (p *parser) qualifiedType() ([]api.Pred, api.Type) {
	preds := p.context()
	return preds, p.typ()
}

// context reads a context and its arrow, if they are there; only the arrow tells a context from a type.
func (p *parser) context() []api.Pred {
	preds, _ := attempt(p, func() []api.Pred {
		preds := p.preds()
		p.expect("=>")
		return preds
	})
	return preds
}

func (p *parser) preds() []api.Pred {
	if p.begins(anyConstructors()) {
		return []api.Pred{p.pred()}
	}
	return listed(p, "(", ")", p.pred)
}

func (p *parser) pred() api.Pred {
	class := p.anyConstructor()
	return api.Pred{Class: class, Type: p.typeVar()}
}
