package kinds

import "lazyc/api"

// variables are type variables whose kinds are to be found: a place for each element of a list.
type variables []*place

func newVariables(list []api.TyVar) variables {
	var vars variables
	for range list {
		vars = append(vars, newPlace())
	}
	return vars
}

// reader returns the reader of types with the variables in the list; of several with one name the last one counts.
func (vars variables) reader(k *known, list []api.TyVar) reader {
	r := reader{k, map[string]*place{}}
	for i, v := range list {
		r.vars[v.Name] = vars[i]
	}
	return r
}

// fill gives the variables in the list their kinds.
func (vars variables) fill(list []api.TyVar) {
	for i := range list {
		list[i].Kind = settled(vars[i])
	}
}
