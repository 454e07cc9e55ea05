package kernel

import (
	"strconv"

	"lazyc/api"
	"lazyc/shapes"
	"lazyc/types"
	"lazyc/writing"
)

// printer writes valid expressions.
type printer struct {
	writing.Writer
}

// name writes a name, in parentheses if it is an operator.
func (p *printer) name(name string) {
	if shapes.Of(name).IsOperator() {
		p.InParens(func() { p.Text(name) })
		return
	}
	p.Text(name)
}

func (p *printer) number(n int) { p.Text(strconv.Itoa(n)) }

func (p *printer) expr(e *api.Kernel) {
	switch e.Op {
	case api.KVar, api.KCon:
		p.name(e.Name)
		for _, t := range e.Types {
			p.Text(" @(", types.Print(t), ")")
		}
	case api.KInt:
		p.number(e.N)
	case api.KChar:
		p.char(e.N)
	case api.KApp:
		p.operand(&e.Kids[0], false)
		p.Text(" ")
		p.operand(&e.Kids[1], true)
	case api.KLam:
		p.lambda(e)
	case api.KLet:
		p.let(e)
	case api.KCase:
		p.cases(e)
	case api.KSig:
		p.InParens(func() {
			p.expr(&e.Kids[0])
			p.Text(" :: ", types.PrintScheme(e.Sigs[0]))
		})
	}
}

// char writes a character in single quotes.
func (p *printer) char(n int) {
	const digits = "0123456789abcdef"
	switch c := byte(n); {
	case c == '\'' || c == '\\':
		p.Text(`'\` + string(rune(c)) + `'`)
	case c < ' ' || c > '~':
		p.Text(`'\x` + digits[c>>4:c>>4+1] + digits[c&15:c&15+1] + `'`)
	default:
		p.Text("'" + string(rune(c)) + "'")
	}
}

// operand writes the function or the argument of an application.
func (p *printer) operand(e *api.Kernel, isArgument bool) {
	if isEnclosed(e, isArgument) {
		p.InParens(func() { p.expr(e) })
		return
	}
	p.expr(e)
}

// isEnclosed reports whether the function or the argument of an application is written in parentheses.
func isEnclosed(e *api.Kernel, isArgument bool) bool {
	switch e.Op {
	case api.KLam, api.KLet, api.KCase:
		return true
	case api.KInt:
		return e.N < 0
	case api.KVar, api.KCon:
		if len(e.Types) == 0 {
			return false
		}
		fallthrough
	case api.KApp:
		return isArgument
	}
	return false
}

func (p *printer) lambda(e *api.Kernel) {
	p.Text(`\`)
	if len(e.Types) > 0 {
		p.InParens(func() {
			p.name(e.Name)
			p.Text(" :: ", types.Print(e.Types[0]))
		})
	} else {
		p.name(e.Name)
	}
	p.Text(" -> ")
	p.expr(&e.Kids[0])
}

// block writes n items in braces.
func (p *printer) block(n int, item func(i int)) {
	p.Text("{ ")
	p.Separated(n, " ; ", item)
	p.Text(" }")
}

func (p *printer) let(e *api.Kernel) {
	p.Text("let ")
	p.block(len(e.Binds), func(i int) { p.binding(&e.Binds[i]) })
	p.Text(" in ")
	p.expr(&e.Kids[0])
}

func (p *printer) binding(b *api.KBind) {
	if b.Plain {
		p.Text("plain ")
	}
	p.name(b.Name)
	if len(b.Sigs) > 0 {
		p.Text(" :: ", types.PrintScheme(b.Sigs[0]))
	}
	p.Text(" = ")
	p.expr(&b.Body)
}

func (p *printer) cases(e *api.Kernel) {
	p.Text("case ")
	p.expr(&e.Kids[0])
	if len(e.Types) > 0 {
		p.Text(" :: ", types.Print(e.Types[0]))
	}
	p.Text(" of ")
	p.block(len(e.Alts), func(i int) { p.alternative(&e.Alts[i]) })
	if len(e.Types) > 0 {
		p.Text(" :: ", types.Print(e.Types[1]))
	}
}

func (p *printer) alternative(a *api.KAlt) {
	switch a.Op {
	case api.AltCon:
		p.name(a.Name)
		for _, v := range a.Vars {
			p.Text(" ")
			p.name(v)
		}
	case api.AltInt:
		p.number(a.N)
	case api.AltChar:
		p.char(a.N)
	default:
		p.Text("_")
	}
	p.Text(" -> ")
	p.expr(&a.Body)
}
