package scope

import (
	"slices"

	"lazyc/api"
	"lazyc/syntax"
	"lazyc/trees"
)

// bindersOf returns the variables of several patterns.
func bindersOf(pats []api.Pat) []string {
	var list []string
	for _, p := range pats {
		list = append(list, syntax.Binders(p)...)
	}
	return list
}

// pat resolves a pattern, whose variables are in scope already.
func (r *resolver) pat(p api.Pat) api.Pat {
	switch p.Op {
	case api.PVar, api.PAs:
		name := r.bound(p.Name)
		return api.Pat{Op: p.Op, Name: name, Kids: trees.Map(p.Kids, r.pat)}
	case api.PCon:
		name := r.value(p.Name)
		return api.Pat{Op: p.Op, Name: name, Kids: trees.Map(p.Kids, r.pat)}
	case api.PRecord:
		return r.recordPat(p)
	}
	return api.Pat{Op: p.Op, N: p.N, Text: p.Text, Kids: trees.Map(p.Kids, r.pat), Names: slices.Clone(p.Names)}
}
