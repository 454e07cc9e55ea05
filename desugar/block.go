package desugar

import (
	"lazyc/api"
	"lazyc/kernel"
	"lazyc/kernels"
	"lazyc/names"
	"lazyc/syntax"
	"lazyc/trees"
)

// signatures has the signatures of a block, by the names that they declare.
type signatures map[string]*api.Decl

func signaturesOf(decls []api.Decl) signatures {
	sigs := signatures{}
	for i := range decls {
		if decls[i].Op != api.DSig {
			continue
		}
		for _, name := range decls[i].Names {
			if sigs[name] == nil {
				sigs[name] = &decls[i]
			}
		}
	}
	return sigs
}

// bind returns a binding with its signature, if there is one.
func (sigs signatures) bind(name string, hasParams bool, body api.Kernel) api.KBind {
	b := api.KBind{Name: name, Body: body}
	if d := sigs[name]; d != nil {
		b.Sigs = []api.Scheme{schemeOf(d.Preds, d.Type)}
	}
	b.Plain = !hasParams && len(b.Sigs) == 0
	return b
}

// level tells bindings at top level from local ones.
type level struct {
	base string // that of the variables for the values of pattern bindings
	most int    // how many nodes the variables of one pattern can have together
}

func localLevel() level { return level{"t", api.MaxTerm} }

// topLevel is the level of the declarations of a module. Each of its bindings may be as large as an expression; the bound is that of what is promised at all.
func topLevel(module string) level { return level{names.Join(module, "t"), 1 << 24} }

// block translates the declarations of a block.
func (t *translator) block(decls []api.Decl) []api.KBind {
	sigs := signaturesOf(decls)
	var binds []api.KBind
	for i := range decls {
		binds = append(binds, t.bindings(&decls[i], sigs, localLevel())...)
	}
	return binds
}

// bindings translates a function or a pattern binding; other declarations bind nothing.
func (t *translator) bindings(d *api.Decl, sigs signatures, at level) []api.KBind {
	switch d.Op {
	case api.DFun:
		hasParams := len(d.Clauses[0].Pats) > 0
		return []api.KBind{sigs.bind(d.Name, hasParams, t.clauses(d.Clauses))}
	case api.DPat:
		return t.pattern(d, sigs, at)
	}
	return nil
}

// clauses translates the clauses of a function.
func (t *translator) clauses(list []api.Clause) api.Kernel {
	first := &list[0]
	if params, ok := parameters(first.Pats); ok && len(list) == 1 {
		return kernels.Lambda(params, t.rhs(first.Rhs, first.Where, kernels.NoMatch()))
	}
	vars := t.fresh("v", len(first.Pats))
	rows := trees.Map(list, func(c api.Clause) api.Row { return t.row(c.Pats, c.Rhs, c.Where) })
	return kernels.Lambda(vars, t.compile(vars, rows, kernels.NoMatch()))
}

// row translates a clause or an alternative.
func (t *translator) row(pats []api.Pat, list []api.Rhs, where []api.Decl) api.Row {
	return api.Row{Pats: pats, Body: t.rhs(list, where, kernels.Var("fail")), Falls: len(list[0].Guard) > 0}
}

// rhs translates right-hand sides with their where part; fail is the result if all guards fail.
func (t *translator) rhs(list []api.Rhs, where []api.Decl, fail api.Kernel) api.Kernel {
	binds := t.block(where)
	return kernels.Let(binds, t.guarded(list, fail))
}

func (t *translator) guarded(list []api.Rhs, fail api.Kernel) api.Kernel {
	if len(list) == 0 {
		return fail
	}
	if len(list[0].Guard) == 0 {
		return t.expr(&list[0].Body)
	}
	guard, body := t.expr(&list[0].Guard[0]), t.expr(&list[0].Body)
	return kernels.If(guard, body, t.guarded(list[1:], fail))
}

// pattern translates a pattern binding: to a variable for the whole, and one for each variable of the pattern.
func (t *translator) pattern(d *api.Decl, sigs signatures, at level) []api.KBind {
	whole := t.supply.Fresh(at.base)
	binds := []api.KBind{kernels.Plain(whole, t.rhs(d.Rhs, d.Where, kernels.NoMatch()))}
	total := 0
	for i, x := range syntax.Binders(d.Pat) {
		var part api.Kernel
		if total > at.most {
			part = t.leaveGap()
		} else {
			part = t.part(whole, d.Pat, i)
		}
		total += kernel.Size(part)
		binds = append(binds, sigs.bind(x, false, part))
	}
	return binds
}

// part returns the expression for one of the variables of a pattern that is matched by another variable.
func (t *translator) part(whole string, pat api.Pat, number int) api.Kernel {
	var renamed []string
	pat = t.renamed(pat, &renamed)
	row := api.Row{Pats: []api.Pat{pat}, Body: kernels.Var(renamed[number])}
	return t.compile([]string{whole}, []api.Row{row}, kernels.NoMatch())
}

// renamed returns a pattern with new variables, which it also lists.
func (t *translator) renamed(p api.Pat, list *[]string) api.Pat {
	if p.Op == api.PVar || p.Op == api.PAs {
		p.Name = t.supply.Fresh(p.Name)
		*list = append(*list, p.Name)
	}
	p.Kids = trees.Map(p.Kids, func(kid api.Pat) api.Pat { return t.renamed(kid, list) })
	return p
}
