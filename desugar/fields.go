package desugar

import (
	"slices"

	"lazyc/api"
	"lazyc/kernels"
	"lazyc/names"
	"lazyc/trees"
	"lazyc/types"
)

// checkLabels returns the first fault of the labels of a data type.
func checkLabels(cons []api.Con) api.Fault {
	for _, con := range cons {
		if len(con.Labels) > 0 && len(con.Labels) != len(con.Fields) {
			return api.Fault{Code: api.ErrArg}
		}
	}
	for _, con := range cons {
		seen := map[string]bool{}
		for _, label := range con.Labels {
			if seen[label] {
				return api.Fault{Code: api.ErrTwice, Name: label}
			}
			seen[label] = true
		}
	}
	first := map[string]api.Type{}
	for _, con := range cons {
		for i, label := range con.Labels {
			t, ok := first[label]
			if ok && !types.Equal(t, con.Fields[i]) {
				return api.Fault{Code: api.ErrType, Name: label}
			}
			first[label] = con.Fields[i]
		}
	}
	return api.Fault{}
}

// selectors returns the selectors of a data type, whose labels have no fault.
func selectors(d api.Data, s *names.Supply) []api.KBind {
	var params []api.Type
	for _, param := range d.Params {
		params = append(params, api.Type{Op: api.TVar, Name: param.Name})
	}
	whole := types.Apply(api.Type{Op: api.TCon, Name: d.Name}, params...)
	var binds []api.KBind
	seen := map[string]bool{}
	for _, con := range d.Cons {
		for i, label := range con.Labels {
			if seen[label] {
				continue
			}
			seen[label] = true
			scheme := api.Scheme{Vars: d.Params, Type: types.Fun(con.Fields[i], whole)}
			binds = append(binds, api.KBind{Name: label, Sigs: []api.Scheme{trees.Scheme(scheme)}, Body: selector(d.Cons, label, s)})
		}
	}
	return binds
}

// selector returns the function that selects the field with a label.
func selector(cons []api.Con, label string, s *names.Supply) api.Kernel {
	v := s.Fresh("v")
	alts := alternatives(cons, []string{label}, s, func(con *api.Con, vars []string) api.Kernel {
		return kernels.Var(vars[position(con, label)])
	})
	return kernels.Lambda([]string{v}, kernels.Case(kernels.Var(v), alts...))
}

// alternatives returns one for each constructor that has all labels, with new variables for its fields, and one that raises NoMatch, if a constructor lacks a label.
func alternatives(cons []api.Con, labels []string, s *names.Supply, body func(con *api.Con, vars []string) api.Kernel) []api.KAlt {
	var alts []api.KAlt
	for i := range cons {
		con := &cons[i]
		if slices.ContainsFunc(labels, func(label string) bool { return position(con, label) < 0 }) {
			continue
		}
		vars := fresh(s, "x", len(con.Fields))
		alts = append(alts, kernels.Alt(con.Name, vars, body(con, vars)))
	}
	if len(alts) < len(cons) {
		alts = append(alts, kernels.Default(kernels.NoMatch()))
	}
	return alts
}

// position returns the index of the first field with a label, or -1.
func position(con *api.Con, label string) int {
	i := slices.Index(con.Labels, label)
	if i >= len(con.Fields) {
		return -1
	}
	return i
}

// fresh returns new names.
func fresh(s *names.Supply, base string, n int) []string {
	list := make([]string, n)
	for i := range list {
		list[i] = s.Fresh(base)
	}
	return list
}
