package syntax

import (
	"strings"

	"lazyc/api"
	"lazyc/base"
	"lazyc/types"
)

// Print returns the source of a module, with explicit braces.
func Print(m api.Module) string { return text(&m, Check(m), (*printer).module) }

// PrintExpr returns the source of an expression, with explicit braces.
func PrintExpr(e api.Expr) string { return text(&e, CheckExpr(e), (*printer).expr) }

// PrintPat returns the source of a pattern.
func PrintPat(p api.Pat) string { return text(&p, checkPat(p), (*printer).pat) }

// PrintDecl returns the source of a declaration, with explicit braces.
func PrintDecl(d api.Decl) string { return text(&d, checkDecl(d), (*printer).decl) }

// text returns what write writes of a tree, if that has no error.
func text[T any](tree *T, code api.Errno, write func(*printer, *T)) string {
	if code != api.OK {
		return ""
	}
	var p printer
	write(&p, tree)
	return p.String()
}

// printer writes well-formed trees into the buffer that it embeds.
type printer struct {
	strings.Builder
}

// units writes lexical units, with a space between any two units.
func (p *printer) units(list ...string) {
	for _, unit := range list {
		if p.Len() > 0 {
			p.WriteByte(' ')
		}
		p.WriteString(unit)
	}
}

// inParens writes what write writes, in parentheses.
func (p *printer) inParens(write func()) {
	p.units("(")
	write()
	p.units(")")
}

// numbered writes the elements with the numbers below n, with a unit between any two of them.
func (p *printer) numbered(n int, unit string, write func(int)) {
	for i := range n {
		if i > 0 {
			p.units(unit)
		}
		write(i)
	}
}

// separated writes the elements of a list, with a unit between any two of them.
func separated[T any](p *printer, list []T, unit string, write func(*T)) {
	p.numbered(len(list), unit, func(i int) { write(&list[i]) })
}

// enclosed writes the elements of a list, with commas between them, in brackets.
func enclosed[T any](p *printer, open string, list []T, end string, write func(*T)) {
	p.units(open)
	separated(p, list, ",", write)
	p.units(end)
}

// block writes items in braces.
func block[T any](p *printer, items []T, write func(*T)) {
	p.units("{")
	separated(p, items, ";", write)
	p.units("}")
}

// name writes a name where an operator would need parentheses.
func (p *printer) name(name string) {
	if isOperatorShape(name) {
		p.units("(", name, ")")
		return
	}
	p.units(name)
}

// listedName is name for the elements of lists.
func (p *printer) listedName(name *string) { p.name(*name) }

// symbol writes a name as an operator.
func (p *printer) symbol(name string) {
	if isOperatorShape(name) {
		p.units(name)
		return
	}
	p.units("`", name, "`")
}

func (p *printer) typ(t *api.Type) { p.units(types.Print(*t)) }

// atype writes a type that stands by itself, and any other one in parentheses.
func (p *printer) atype(t *api.Type) {
	if t.Op == api.TApp && !isBracketed(t) {
		p.inParens(func() { p.typ(t) })
		return
	}
	p.typ(t)
}

// isBracketed reports whether a type is written as a list or a tuple.
func isBracketed(t *api.Type) bool {
	head, args := types.Spine(*t)
	if head.Op != api.TCon {
		return false
	}
	return head.Name == "[]" && len(args) == 1 || head.Name == base.Tuple(len(args))
}

// context writes constraints, and the arrow behind them.
func (p *printer) context(preds []api.Pred) {
	if len(preds) > 0 {
		enclosed(p, "(", preds, ")", p.pred)
		p.units("=>")
	}
}

func (p *printer) pred(pred *api.Pred) {
	p.name(pred.Class)
	p.typ(&pred.Type)
}
