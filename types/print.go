package types

import (
	"lazyc/api"
	"lazyc/writing"
)

// Print returns the text of a type.
func Print(t api.Type) string { return printed(t, Check, (*printer).typ) }

// PrintKind returns the text of a kind.
func PrintKind(k api.Kind) string { return printed(k, checkKind, (*printer).kind) }

// PrintScheme returns the text of a scheme.
func PrintScheme(s api.Scheme) string { return printed(s, checkScheme, (*printer).scheme) }

// printed returns what write writes of something that is valid.
func printed[T any](t T, check func(T) api.Errno, write func(*printer, T)) string {
	if check(t) != api.OK {
		return ""
	}
	var p printer
	write(&p, t)
	return p.String()
}

// printer writes valid types, kinds and schemes.
type printer struct {
	writing.Writer
}

// separated writes elements with commas in between.
func separated[T any](p *printer, elements []T, write func(T)) {
	p.Separated(len(elements), ", ", func(i int) { write(elements[i]) })
}

func (p *printer) scheme(s api.Scheme) {
	if len(s.Vars) > 0 {
		p.binders(s.Vars)
	}
	switch len(s.Preds) {
	case 0:
	case 1:
		p.pred(s.Preds[0])
		p.Text(" => ")
	default:
		p.InParens(func() { separated(p, s.Preds, p.pred) })
		p.Text(" => ")
	}
	if s.Type.Op == api.TForall {
		p.InParens(func() { p.typ(s.Type) })
		return
	}
	p.typ(s.Type)
}

// binders writes quantified variables, and the point behind them.
func (p *printer) binders(vars []api.TyVar) {
	p.Text(forallWord)
	for _, v := range vars {
		p.Text(" ")
		if hasArgs(v.Kind) {
			p.InParens(func() {
				p.Text(v.Name + " :: ")
				p.kind(v.Kind)
			})
		} else {
			p.Text(v.Name)
		}
	}
	p.Text(". ")
}

func (p *printer) pred(pred api.Pred) {
	p.Text(pred.Class + " ")
	p.atype(pred.Type)
}

func (p *printer) kind(k api.Kind) {
	for _, arg := range k.Args {
		if hasArgs(arg) {
			p.InParens(func() { p.kind(arg) })
		} else {
			p.kind(arg)
		}
		p.Text(" -> ")
	}
	p.Text("*")
}

func (p *printer) typ(t api.Type) {
	switch {
	case t.Op == api.TForall:
		var vars []api.TyVar
		for ; t.Op == api.TForall; t = t.Kids[0] {
			vars = append(vars, api.TyVar{Name: t.Name, Kind: t.Bound})
		}
		p.binders(vars)
		p.typ(t)
	case isFun(t):
		p.btype(paramOf(t))
		p.Text(" -> ")
		p.typ(resultOf(t))
	default:
		p.btype(t)
	}
}

// btype writes a type that is not more than an application, and any other one in parentheses.
func (p *printer) btype(t api.Type) {
	if !isApp(t) || isFun(t) || isBracketed(t) {
		p.atype(t)
		return
	}
	p.btype(t.Kids[0])
	p.Text(" ")
	p.atype(t.Kids[1])
}

// isBracketed reports whether t is written as a list or a tuple.
func isBracketed(t api.Type) bool {
	head, args := spine(t)
	return head.Op == api.TCon && len(args) > 0 && len(args) == componentsOf(head.Name)
}

// componentsOf returns the number of types that a constructor encloses when it is written in brackets, or 0.
func componentsOf(name string) int {
	if name == listName {
		return 1
	}
	return tupleSize(name)
}

// atype writes a type that stands by itself, and any other one in parentheses.
func (p *printer) atype(t api.Type) {
	switch {
	case t.Op == api.TVar:
		p.Text(t.Name)
	case t.Op == api.TCon:
		p.conName(t.Name)
	case isBracketed(t):
		p.bracketed(t)
	default:
		p.InParens(func() { p.typ(t) })
	}
}

func (p *printer) conName(name string) {
	if name == arrowName || !isBuiltin(name) && isOperatorName(name) {
		p.InParens(func() { p.Text(name) })
		return
	}
	p.Text(name)
}

// bracketed writes a list or tuple type.
func (p *printer) bracketed(t api.Type) {
	head, args := spine(t)
	open, end := "(", ")"
	if head.Name == listName {
		open, end = "[", "]"
	}
	p.Text(open)
	separated(p, args, p.typ)
	p.Text(end)
}
