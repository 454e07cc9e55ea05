package kinds

import (
	"slices"

	"lazyc/api"
	"lazyc/trees"
)

// demand is what the kinds of variables are inferred from: the constraints must be well kinded, and the types must have the kind *.
type demand struct {
	vars  []api.TyVar
	preds []api.Pred
	types []api.Type
}

// demandOf returns the demand of a scheme.
func demandOf(s *api.Scheme) demand { return demand{s.Vars, s.Preds, []api.Type{s.Type}} }

// isSimple reports whether all types are valid and contain no quantification.
func (d demand) isSimple() bool {
	return !slices.ContainsFunc(d.types, isNotSimple) &&
		!slices.ContainsFunc(d.preds, func(p api.Pred) bool { return isNotSimple(p.Type) })
}

func isNotSimple(t api.Type) bool { return !trees.IsSimple(t) }

// openDemand is a demand whose kinds are to be found.
type openDemand struct {
	demand
	places variables
	reader reader
}

func (k *known) open(d demand, places variables) openDemand {
	return openDemand{d, places, places.reader(k, d.vars)}
}

// fill gives the variables of a demand their kinds. Its faults have the name that is not known, or none.
func (k *known) fill(d demand) api.Fault {
	if !d.isSimple() {
		return api.Fault{Code: api.ErrArg}
	}
	o := k.open(d, newVariables(d.vars))
	if name, ok := o.stranger(); ok {
		return api.Fault{Code: api.ErrScope, Name: name}
	}
	if !o.infer() || !areValid(o.places) {
		return api.Fault{Code: api.ErrKind}
	}
	o.places.fill(d.vars)
	return api.Fault{}
}

// fillScheme gives the variables of a scheme their kinds.
func (k *known) fillScheme(s *api.Scheme) api.Fault {
	if repeats(s.Vars) {
		return api.Fault{Code: api.ErrArg}
	}
	return k.fill(demandOf(s))
}

// repeats reports whether a variable occurs twice in a list.
func repeats(list []api.TyVar) bool {
	seen := map[string]bool{}
	for _, v := range list {
		if seen[v.Name] {
			return true
		}
		seen[v.Name] = true
	}
	return false
}

// stranger returns the first name that is not known, of a class, a type constructor or a variable.
func (o openDemand) stranger() (string, bool) {
	for _, pred := range o.preds {
		if _, ok := o.reader.known.class(pred.Class); !ok {
			return pred.Class, true
		}
		if name, ok := o.reader.stranger(pred.Type); ok {
			return name, true
		}
	}
	return o.reader.firstStranger(o.types)
}

// infer finds the kinds, where all names are known, and reports whether there are any.
func (o openDemand) infer() bool {
	for _, pred := range o.preds {
		class, ok := o.reader.known.class(pred.Class)
		if !ok || !o.reader.has(pred.Type, class) {
			return false
		}
	}
	return o.reader.haveStar(o.types)
}
