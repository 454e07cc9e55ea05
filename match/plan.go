package match

import (
	"slices"

	"lazyc/api"
	"lazyc/kernel"
	"lazyc/kernels"
	"lazyc/trees"
)

// plan says how the remaining rows are examined.
type plan interface {
	translate(c *compiler) api.Kernel
}

// emit translates a plan.
func (c *compiler) emit(p plan) api.Kernel { return p.translate(c) }

// given stands for an expression that the caller of Compile has given.
type given struct {
	expr *api.Kernel
}

func (p given) translate(*compiler) api.Kernel { return trees.Kernel(*p.expr) }

// raised raises NoMatch.
type raised struct{}

func (raised) translate(*compiler) api.Kernel { return kernels.NoMatch() }

// leave goes on at an exit.
type leave struct {
	out *exit
}

func (p leave) translate(c *compiler) api.Kernel {
	if p.out.name != "" {
		return kernels.Var(p.out.name)
	}
	return c.emit(p.out.rest)
}

// attempt examines the first rows, and goes on at the exit if they fail.
type attempt struct {
	first plan
	out   *exit
}

func (p attempt) translate(c *compiler) api.Kernel {
	if !p.out.named && p.out.uses <= 1 {
		return c.emit(p.first)
	}
	p.out.name = c.supply.Fresh(failName)
	rest := c.emit(p.out.rest)
	return kernels.Let([]api.KBind{kernels.Plain(p.out.name, rest)}, c.emit(p.first))
}

// test examines a variable. There is a plan for each alternative.
type test struct {
	variable string
	alts     []api.KAlt
	plans    []plan
}

func (p test) translate(c *compiler) api.Kernel {
	for i := range p.alts {
		p.alts[i].Body = c.emit(p.plans[i])
	}
	return kernels.Case(kernels.Var(p.variable), p.alts...)
}

// chosen is the body of a row, with an exit if the body contains fail.
type chosen struct {
	row row
	out *exit
}

func (p chosen) translate(c *compiler) api.Kernel {
	body := trees.Kernel(*p.row.body)
	if p.out != nil {
		body = kernel.Rename(body, failName, p.out.name)
	}
	return c.bindAll(p.row.bound, body)
}

// bindAll returns the body in a scope that binds the variables of patterns.
func (c *compiler) bindAll(list []bound, body api.Kernel) api.Kernel {
	list = effective(list)
	names := map[string]bool{}
	for _, b := range list {
		names[b.name] = true
	}
	// A let expression is recursive, so that a variable of the same name around it cannot be used in it.
	var copies, binds []api.KBind
	copied := map[string]string{}
	for _, b := range list {
		if names[b.source] {
			if copied[b.source] == "" {
				copied[b.source] = c.supply.Fresh("v")
				copies = append(copies, kernels.Plain(copied[b.source], kernels.Var(b.source)))
			}
			b.source = copied[b.source]
		}
		binds = append(binds, kernels.Plain(b.name, c.meaning(b)))
	}
	return kernels.Let(copies, kernels.Let(binds, body))
}

// effective returns the last one of the bindings of each variable, without those of a variable to itself.
func effective(list []bound) []bound {
	var kept []bound
	seen := map[string]bool{}
	for _, b := range slices.Backward(list) {
		if !seen[b.name] && (b.name != b.source || b.lazy != nil) {
			kept = append(kept, b)
		}
		seen[b.name] = true
	}
	slices.Reverse(kept)
	return kept
}

// meaning returns the expression for which a variable stands.
func (c *compiler) meaning(b bound) api.Kernel {
	if b.lazy == nil {
		return kernels.Var(b.source)
	}
	rows := []row{{pats: []api.Pat{*b.lazy}, want: b.name}}
	out := &exit{rest: raised{}}
	return c.emit(c.next([]string{b.source}, rows, out))
}

// part is the value of one variable of a row.
type part struct {
	row row
}

func (p part) translate(c *compiler) api.Kernel {
	for _, b := range slices.Backward(p.row.bound) {
		if b.name == p.row.want {
			return c.meaning(b)
		}
	}
	return raised{}.translate(c)
}
