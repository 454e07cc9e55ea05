package derive

import (
	"lazyc/api"
	"lazyc/names"
	"lazyc/types"
)

// instance returns the instance of a class for a data declaration, with local variables of the supply.
func instance(class string, d api.Decl, supply *names.Supply) (api.Decl, api.Fault) {
	r, ok := ruleOf(class)
	if !ok {
		return api.Decl{}, api.Fault{Code: api.ErrInstance, Name: class}
	}
	occurs, applied := usesOf(d.Cons)
	var preds []api.Pred
	var params []api.Type
	for _, name := range d.Names {
		if applied[name] {
			return api.Decl{}, api.Fault{Code: api.ErrKind, Name: name}
		}
		params = append(params, variable(name))
		if occurs[name] {
			preds = append(preds, api.Pred{Class: class, Type: variable(name)})
		}
	}
	return api.Decl{
		Op:    api.DInst,
		Preds: preds,
		Class: class,
		Type:  types.Apply(api.Type{Op: api.TCon, Name: d.Name}, params...),
		Decls: []api.Decl{{Op: api.DFun, Name: r.method, Clauses: r.clauses(d.Cons, supply)}},
	}, api.Fault{}
}

func variable(name string) api.Type { return api.Type{Op: api.TVar, Name: name} }

// usesOf returns the type variables that occur in fields, and those of them that are applied to arguments.
func usesOf(cons []api.ConDecl) (occurs, applied map[string]bool) {
	occurs, applied = map[string]bool{}, map[string]bool{}
	for _, con := range cons {
		for _, field := range con.Fields {
			for _, name := range types.Free(field) {
				occurs[name] = true
			}
			noteApplied(field, applied)
		}
	}
	return occurs, applied
}

func noteApplied(t api.Type, applied map[string]bool) {
	head, args := types.Spine(t)
	if head.Op == api.TVar && len(args) > 0 {
		applied[head.Name] = true
	}
	for _, arg := range args {
		noteApplied(arg, applied)
	}
}
