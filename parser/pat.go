package parser

import "lazyc/api"

// pat reads a pattern, as far as it extends.
func (p *parser) pat() api.Pat {
	return p.infixPat(p.operandPat(), p.seesConOperator)
}

// infixPat reads the operators and operands behind a first operand, as long as there is a further operator.
func (p *parser) infixPat(first api.Pat, further func() bool) api.Pat {
	kids := []api.Pat{first}
	var ops []string
	for further() {
		ops = append(ops, p.conOperator())
		kids = append(kids, p.operandPat())
	}
	if len(ops) == 0 {
		return first
	}
	return api.Pat{Op: api.PInfix, Names: ops, Kids: kids}
}

// operandPat reads an operand: a negative number, a constructor with its arguments, or a pattern that stands by itself.
func (p *parser) operandPat() api.Pat {
	if p.seesMinus(0) {
		p.at++
		return api.Pat{Op: api.PInt, N: -p.take(api.TokInt).N}
	}
	head := p.argPat()
	name := conName(head)
	if name == "" || !p.beginsArg() {
		return head
	}
	return api.Pat{Op: api.PCon, Name: name, Kids: p.argPats()}
}

// conName returns the name of a pattern that is just a constructor, and so can have arguments.
func conName(p api.Pat) string {
	switch {
	case len(p.Kids) > 0:
		return ""
	case p.Op == api.PCon:
		return p.Name
	case p.Op == api.PTuple:
		return "()"
	case p.Op == api.PList:
		return "[]"
	}
	return ""
}

// argPats reads as many arguments as there are.
func (p *parser) argPats() []api.Pat {
	var list []api.Pat
	for p.beginsArg() {
		list = append(list, p.argPat())
	}
	return list
}

// beginsArg reports whether a pattern that stands by itself begins here.
func (p *parser) beginsArg() bool {
	switch p.peek(0).Op {
	case api.TokInt, api.TokChar, api.TokString, api.TokCon:
		return true
	}
	return p.isName(0, api.TokVar, false) || p.sees("(") || p.sees("[") || p.sees("_") || p.sees("~")
}

// argPat reads a pattern that stands by itself.
func (p *parser) argPat() api.Pat {
	tok := p.peek(0)
	switch tok.Op {
	case api.TokInt:
		p.at++
		return api.Pat{Op: api.PInt, N: tok.N}
	case api.TokChar:
		p.at++
		return api.Pat{Op: api.PChar, N: tok.N}
	case api.TokString:
		p.at++
		return api.Pat{Op: api.PString, Text: tok.Text}
	}
	switch {
	case p.beginsVariable():
		return p.variablePat()
	case p.begins(anyConstructors()):
		return p.conPat()
	case p.accepts("_"):
		return api.Pat{Op: api.PWild}
	case p.accepts("~"):
		return api.Pat{Op: api.PLazy, Kids: []api.Pat{p.argPat()}}
	case p.sees("["):
		return api.Pat{Op: api.PList, Kids: listed(p, "[", "]", p.pat)}
	case p.sees("(") && p.seesAt(1, ","):
		return api.Pat{Op: api.PCon, Name: p.commas()}
	}
	return tuplePat(listed(p, "(", ")", p.pat))
}

// beginsVariable reports whether a variable begins here. A minus sign in parentheses begins one, too, unless it belongs to a number.
func (p *parser) beginsVariable() bool {
	number := p.seesMinus(1) && p.peek(2).Op == api.TokInt
	return p.begins(variables()) && !(p.sees("(") && number)
}

// variablePat reads a variable, or an as-pattern.
func (p *parser) variablePat() api.Pat {
	name := p.variable()
	if !p.accepts("@") {
		return api.Pat{Op: api.PVar, Name: name}
	}
	return api.Pat{Op: api.PAs, Name: name, Kids: []api.Pat{p.argPat()}}
}

// conPat reads a constructor by itself, or with named fields.
func (p *parser) conPat() api.Pat {
	name := p.anyConstructor()
	if !p.sees("{") {
		return api.Pat{Op: api.PCon, Name: name}
	}
	record := api.Pat{Op: api.PRecord, Name: name}
	listed(p, "{", "}", func() bool {
		record.Names = append(record.Names, p.variable())
		p.expect("=")
		record.Kids = append(record.Kids, p.pat())
		return true
	})
	return record
}

// tuplePat returns what patterns in parentheses mean.
func tuplePat(parts []api.Pat) api.Pat {
	if len(parts) == 1 {
		return api.Pat{Op: api.PParen, Kids: parts}
	}
	return api.Pat{Op: api.PTuple, Kids: parts}
}
