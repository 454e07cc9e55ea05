package kinds

import (
	"slices"

	"lazyc/api"
	"lazyc/graph"
	"lazyc/trees"
	"lazyc/types"
)

// fillDatas gives the parameters of data types their kinds.
func (k *known) fillDatas(l []api.Data) api.Fault {
	if slices.ContainsFunc(l, func(d api.Data) bool { return !isFormed(d) }) {
		return api.Fault{Code: api.ErrArg}
	}
	if name, ok := repeated(l); ok {
		return api.Fault{Code: api.ErrTwice, Name: name}
	}
	open := k.openDatas(l)
	for _, o := range open {
		if name, ok := o.stranger(); ok {
			return api.Fault{Code: api.ErrScope, Name: name}
		}
	}
	for _, group := range dataGroups(l) {
		var places variables
		for _, i := range group {
			if !open[i].infer() {
				return api.Fault{Code: api.ErrKind, Name: l[group[0]].Name}
			}
			places = append(places, open[i].places...)
		}
		if !areValid(places) {
			return api.Fault{Code: api.ErrKind, Name: l[group[0]].Name}
		}
		for _, i := range group {
			open[i].places.fill(l[i].Params)
		}
	}
	return api.Fault{}
}

// isFormed reports whether the fields of a data type, and the types of its constructors, are simple.
func isFormed(d api.Data) bool {
	result := api.Type{Op: api.TCon, Name: d.Name}
	for _, param := range d.Params {
		result = api.Type{Op: api.TApp, Kids: []api.Type{result, {Op: api.TVar, Name: param.Name}}}
	}
	return !slices.ContainsFunc(d.Cons, func(c api.Con) bool { return isNotSimple(types.Fun(result, c.Fields...)) })
}

// repeated returns the first name that an earlier data type has, too.
func repeated(l []api.Data) (string, bool) {
	seen := map[string]bool{}
	for _, d := range l {
		if seen[d.Name] {
			return d.Name, true
		}
		seen[d.Name] = true
	}
	return "", false
}

// openDatas declares the data types, with kinds that are to be found.
func (k *known) openDatas(l []api.Data) []openDemand {
	var open []openDemand
	for _, d := range l {
		places := newVariables(d.Params)
		k.cons[d.Name] = function(places, starPlace())
		open = append(open, k.open(demand{vars: d.Params, types: fields(d)}, places))
	}
	return open
}

// fields returns the types of all fields of a data type.
func fields(d api.Data) []api.Type {
	var list []api.Type
	for _, con := range d.Cons {
		list = append(list, con.Fields...)
	}
	return list
}

// dataGroups returns the numbers of the data types in groups, each one after those to which it refers.
func dataGroups(l []api.Data) [][]int {
	return groups(trees.Map(l, func(d api.Data) string { return d.Name }), func(i int) []string { return constructors(fields(l[i])) })
}

// constructors returns the names of the type constructors in types.
func constructors(list []api.Type) []string {
	var names []string
	for _, t := range list {
		if t.Op == api.TCon {
			names = append(names, t.Name)
		}
		names = append(names, constructors(t.Kids)...)
	}
	return names
}

// groups returns the numbers of declarations with the given names in groups, each one after those that its declarations mention.
func groups(names []string, mentions func(i int) []string) [][]int {
	numbers := map[string]int{}
	for i, name := range names {
		numbers[name] = i
	}
	g := api.Graph{Edges: make([][]int, len(names))}
	for i := range names {
		for _, name := range mentions(i) {
			if j, ok := numbers[name]; ok {
				g.Edges[i] = append(g.Edges[i], j)
			}
		}
	}
	return graph.Components(g)
}
