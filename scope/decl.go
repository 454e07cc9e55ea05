package scope

import (
	"slices"

	"lazyc/api"
	"lazyc/trees"
)

// block resolves the declarations of a block, whose variables are in scope already.
func (r *resolver) block(decls []api.Decl) []api.Decl {
	r.signatures(decls)
	return trees.Map(decls, r.decl)
}

// signatures examines whether each signature of a block is the only one of a variable of the block.
func (r *resolver) signatures(decls []api.Decl) {
	isBound := map[string]bool{}
	for _, name := range variables(decls) {
		isBound[name] = true
	}
	hasSignature := map[string]bool{}
	for i := range decls {
		if decls[i].Op != api.DSig {
			continue
		}
		for _, name := range decls[i].Names {
			switch {
			case !isBound[name]:
				r.wrong(api.ErrScope, name)
			case hasSignature[name]:
				r.wrong(api.ErrTwice, name)
			}
			hasSignature[name] = true
		}
	}
}

func (r *resolver) decl(d api.Decl) api.Decl {
	switch d.Op {
	case api.DData:
		return r.data(d)
	case api.DClass:
		return r.class(d)
	case api.DInst:
		return r.instance(d)
	case api.DSig:
		return r.signature(d)
	case api.DFix:
		return api.Decl{Op: d.Op, Assoc: d.Assoc, N: d.N, Names: trees.Map(d.Names, r.operator)}
	case api.DFun:
		return api.Decl{Op: d.Op, Name: r.bound(d.Name), Clauses: trees.Map(d.Clauses, r.clause)}
	}
	pat := r.pat(d.Pat)
	rhs, where := r.rhs(d.Rhs, d.Where)
	return api.Decl{Op: d.Op, Pat: pat, Rhs: rhs, Where: where}
}

func (r *resolver) clause(c api.Clause) api.Clause {
	vars := bindersOf(c.Pats)
	r.enter(vars)
	defer r.leave(vars)
	pats := trees.Map(c.Pats, r.pat)
	rhs, where := r.rhs(c.Rhs, c.Where)
	return api.Clause{Pats: pats, Rhs: rhs, Where: where}
}

func (r *resolver) signature(d api.Decl) api.Decl {
	bound := trees.Map(d.Names, r.bound)
	preds := trees.Map(d.Preds, r.pred)
	return api.Decl{Op: d.Op, Names: bound, Preds: preds, Type: r.typ(d.Type)}
}

// operator resolves a name of a fixity declaration: what the module declares goes before what it imports.
func (r *resolver) operator(name string) string {
	if own := r.own(valueSpace, name); r.reached[own.name] {
		return own.name
	}
	return r.global(valueSpace, name)
}

func (r *resolver) data(d api.Decl) api.Decl {
	if param, ok := repeated(d.Names); ok {
		r.wrong(api.ErrTwice, param)
	}
	isParam := map[string]bool{}
	for _, param := range d.Names {
		isParam[param] = true
	}
	cons := trees.Map(d.Cons, func(con api.ConDecl) api.ConDecl { return r.con(con, isParam) })
	return api.Decl{
		Op:     d.Op,
		Name:   r.own(typeSpace, d.Name).name,
		Names:  slices.Clone(d.Names),
		Cons:   cons,
		Derive: trees.Map(d.Derive, r.typeName),
	}
}

// con resolves a constructor of a data type with the parameters.
func (r *resolver) con(c api.ConDecl, isParam map[string]bool) api.ConDecl {
	fields := trees.Map(c.Fields, func(t api.Type) api.Type {
		return r.typeOver(t, func(name string) {
			if !isParam[name] {
				r.wrong(api.ErrScope, name)
			}
		})
	})
	return api.ConDecl{Name: r.own(valueSpace, c.Name).name, Fields: fields, Labels: trees.Map(c.Labels, r.bound)}
}

func (r *resolver) class(d api.Decl) api.Decl {
	preds := trees.Map(d.Preds, r.pred)
	name := r.own(typeSpace, d.Name).name
	return api.Decl{Op: d.Op, Name: name, Names: slices.Clone(d.Names), Preds: preds, Decls: r.members(name, d.Decls)}
}

func (r *resolver) instance(d api.Decl) api.Decl {
	preds := trees.Map(d.Preds, r.pred)
	class := r.typeName(d.Class)
	typ := r.typ(d.Type)
	return api.Decl{Op: d.Op, Preds: preds, Class: class, Type: typ, Decls: r.members(class, d.Decls)}
}

// members resolves the signatures and definitions of the methods of a class.
func (r *resolver) members(class string, decls []api.Decl) []api.Decl {
	methods := map[string]string{}
	for _, method := range r.methods[class] {
		methods[simple(method)] = method
	}
	defined := map[string]bool{}
	return trees.Map(decls, func(d api.Decl) api.Decl {
		if d.Op == api.DSig {
			return r.signature(d)
		}
		method, ok := methods[d.Name]
		switch {
		case !ok:
			r.wrong(api.ErrScope, d.Name)
		case defined[method]:
			r.wrong(api.ErrTwice, d.Name)
		}
		defined[method] = true
		return api.Decl{Op: d.Op, Name: method, Clauses: trees.Map(d.Clauses, r.clause)}
	})
}
