package desugar

import (
	"slices"

	"lazyc/api"
	"lazyc/names"
	"lazyc/trees"
	"lazyc/types"
)

// dataTypes returns the data types that declarations declare.
func dataTypes(decls []api.Decl) []api.Data {
	var datas []api.Data
	for i := range decls {
		if d := &decls[i]; d.Op == api.DData {
			datas = append(datas, api.Data{Name: d.Name, Params: params(d.Names), Cons: trees.Map(d.Cons, constructorOf)})
		}
	}
	return datas
}

func constructorOf(c api.ConDecl) api.Con {
	return api.Con{Name: c.Name, Fields: trees.Map(c.Fields, trees.Type), Labels: slices.Clone(c.Labels)}
}

// module translates a module with its data types.
func (t *translator) module(m api.Module, datas []api.Data) api.KModule {
	k := api.KModule{Name: m.Name, Exports: trees.Exports(m.Exports), Env: environment(m)}
	k.Env.Datas = datas
	for _, d := range datas {
		k.Binds = append(k.Binds, selectors(d, t.supply)...)
	}
	sigs := signaturesOf(m.Decls)
	for i := range m.Decls {
		d := &m.Decls[i]
		switch d.Op {
		case api.DInst:
			number := len(k.Insts) + 1
			k.Env.Insts = append(k.Env.Insts, instanceOf(d, m.Name, number))
			k.Insts = append(k.Insts, api.KInst{Inst: instanceOf(d, m.Name, number), Binds: t.methods(d.Decls)})
		case api.DClass:
			for _, b := range t.methods(d.Decls) {
				k.Defaults = append(k.Defaults, api.KDefault{Class: d.Name, Bind: b})
			}
		default:
			k.Binds = append(k.Binds, t.bindings(d, sigs, topLevel(m.Name))...)
		}
	}
	return k
}

// environment returns what a module declares, without its data types and instances.
func environment(m api.Module) api.Env {
	var env api.Env
	for i := range m.Decls {
		switch d := &m.Decls[i]; d.Op {
		case api.DClass:
			env.Classes = append(env.Classes, classOf(d))
		case api.DSig:
			for _, name := range d.Names {
				env.Values = append(env.Values, api.Sig{Name: name, Scheme: schemeOf(d.Preds, d.Type)})
			}
		case api.DFix:
			for _, name := range d.Names {
				env.Fixities = append(env.Fixities, api.Fixity{Name: name, Prec: d.N, Assoc: d.Assoc})
			}
		}
	}
	return env
}

// classOf returns the class that a declaration declares.
func classOf(d *api.Decl) api.Class {
	c := api.Class{Name: d.Name, Param: api.TyVar{Name: d.Names[0]}}
	for _, pred := range d.Preds {
		c.Supers = append(c.Supers, pred.Class)
	}
	for i := range d.Decls {
		member := &d.Decls[i]
		for _, name := range member.Names {
			c.Methods = append(c.Methods, api.Sig{Name: name, Scheme: methodScheme(d, member)})
		}
		if member.Op == api.DFun {
			c.Defaults = append(c.Defaults, member.Name)
		}
	}
	return c
}

// methodScheme returns the scheme of the methods of a class that have a signature.
func methodScheme(class, sig *api.Decl) api.Scheme {
	param := class.Names[0]
	own := api.Pred{Class: class.Name, Type: api.Type{Op: api.TVar, Name: param}}
	scheme := schemeOf(sig.Preds, sig.Type)
	scheme.Vars = slices.DeleteFunc(scheme.Vars, func(v api.TyVar) bool { return v.Name == param })
	scheme.Preds = slices.DeleteFunc(scheme.Preds, func(p api.Pred) bool { return trees.SamePred(&p, &own) })
	scheme.Vars = append([]api.TyVar{{Name: param}}, scheme.Vars...)
	scheme.Preds = append([]api.Pred{own}, scheme.Preds...)
	return scheme
}

// instanceOf returns instance number k of a module.
func instanceOf(d *api.Decl, module string, k int) api.Inst {
	return api.Inst{
		Name:  names.Made(names.Join(module, "inst"), k),
		Class: d.Class,
		Vars:  params(types.Free(d.Type)),
		Preds: schemeOf(d.Preds, d.Type).Preds,
		Type:  types.Apply(d.Type),
	}
}

// methods translates the definitions of methods; signatures define nothing.
func (t *translator) methods(decls []api.Decl) []api.KBind {
	var binds []api.KBind
	for i := range decls {
		if decls[i].Op == api.DFun {
			binds = append(binds, api.KBind{Name: decls[i].Name, Body: t.clauses(decls[i].Clauses)})
		}
	}
	return binds
}

// checkModule notes the error of the first translated binding that has one.
func (t *translator) checkModule(k *api.KModule) {
	t.checkBinds(k.Binds)
	for i := range k.Insts {
		t.checkBinds(k.Insts[i].Binds)
	}
	for i := range k.Defaults {
		t.check(k.Defaults[i].Bind.Body)
	}
}

func (t *translator) checkBinds(binds []api.KBind) {
	for i := range binds {
		t.check(binds[i].Body)
	}
}
