package syntax

import (
	"strconv"

	"lazyc/api"
	"lazyc/lexer"
)

// The levels of patterns. A place has the level of the parts that need no parentheses there.
const (
	anyPatLevel     = iota // also a sequence of operators
	operandPatLevel        // also a negative number, or a constructor with arguments
	argPatLevel            // what stands by itself
)

func patLevel(p *api.Pat) int {
	switch {
	case p.Op == api.PInfix:
		return anyPatLevel
	case p.Op == api.PInt && p.N < 0, p.Op == api.PCon && len(p.Kids) > 0:
		return operandPatLevel
	}
	return argPatLevel
}

// patAt writes a pattern at a place of a level.
func (p *printer) patAt(level int, pat *api.Pat) {
	if patLevel(pat) < level {
		p.inParens(func() { p.pat(pat) })
		return
	}
	p.pat(pat)
}

// params writes parameters, or the arguments of a constructor.
func (p *printer) params(pats []api.Pat) {
	for i := range pats {
		p.patAt(argPatLevel, &pats[i])
	}
}

func (p *printer) pat(pat *api.Pat) {
	switch pat.Op {
	case api.PVar:
		p.name(pat.Name)
	case api.PWild:
		p.units("_")
	case api.PInt:
		p.number(pat.N)
	case api.PChar:
		p.units(lexer.QuoteChar(pat.N))
	case api.PString:
		p.units(lexer.Quote(pat.Text))
	case api.PCon:
		p.name(pat.Name)
		p.params(pat.Kids)
	case api.PTuple, api.PParen:
		enclosed(p, "(", pat.Kids, ")", p.pat)
	case api.PList:
		enclosed(p, "[", pat.Kids, "]", p.pat)
	case api.PAs:
		p.name(pat.Name)
		p.units("@")
		p.params(pat.Kids)
	case api.PLazy:
		p.units("~")
		p.params(pat.Kids)
	case api.PRecord:
		p.recordPat(pat)
	case api.PInfix:
		for i := range pat.Kids {
			if i > 0 {
				p.symbol(pat.Names[i-1])
			}
			p.patAt(operandPatLevel, &pat.Kids[i])
		}
	}
}

// number writes a number with its minus sign, which is a unit of its own.
func (p *printer) number(n int) {
	if n < 0 {
		p.units("-")
		n = -n
	}
	p.units(strconv.Itoa(n))
}

func (p *printer) recordPat(pat *api.Pat) {
	p.name(pat.Name)
	p.units("{")
	p.numbered(len(pat.Kids), ",", func(i int) {
		p.name(pat.Names[i])
		p.units("=")
		p.pat(&pat.Kids[i])
	})
	p.units("}")
}
