package scope

import (
	"lazyc/api"
	"lazyc/names"
)

// resolver copies trees with resolved names. It goes on after a fault, but keeps only the first one.
type resolver struct {
	*top
	supply *names.Supply
	locals map[string][]string // what a name stands for in the local scopes around, in the innermost one last
	fault  api.Fault
}

func newResolver(t *top) *resolver {
	return &resolver{top: t, supply: names.NewSupply(), locals: map[string][]string{}}
}

// note notes a fault, if it is the first one.
func (r *resolver) note(fault api.Fault) {
	if r.fault == (api.Fault{}) {
		r.fault = fault
	}
}

// wrong notes a fault with a name of the source.
func (r *resolver) wrong(code api.Errno, name string) { r.note(api.Fault{Code: code, Name: name}) }

// enter begins a local scope of variables. The caller defers the call of leave.
func (r *resolver) enter(variables []string) {
	if name, ok := repeated(variables); ok {
		r.wrong(api.ErrTwice, name)
	}
	for _, name := range variables {
		r.locals[name] = append(r.locals[name], r.supply.Fresh(name))
	}
}

// leave ends the local scope of the variables.
func (r *resolver) leave(variables []string) {
	for _, name := range variables {
		if outer := len(r.locals[name]) - 1; outer > 0 {
			r.locals[name] = r.locals[name][:outer]
		} else {
			delete(r.locals, name)
		}
	}
}

// local looks a name up in the local scopes.
func (r *resolver) local(name string) (string, bool) {
	list, ok := r.locals[name]
	if !ok {
		return "", false
	}
	return list[len(list)-1], true
}

// global looks a name up at top level.
func (r *resolver) global(s space, name string) string {
	resolved, fault := r.find(s, name)
	r.note(fault)
	return resolved
}

// typeName looks up the name of a type or class.
func (r *resolver) typeName(name string) string { return r.global(typeSpace, name) }

// value looks up a variable, an operator or a constructor.
func (r *resolver) value(name string) string {
	if resolved, ok := r.local(name); ok {
		return resolved
	}
	return r.global(valueSpace, name)
}

// bound returns the variable that stands where the source binds it: in a local scope, or at top level.
func (r *resolver) bound(name string) string {
	if resolved, ok := r.local(name); ok {
		return resolved
	}
	return names.Join(r.module, name)
}
