package trees

import (
	"slices"

	"lazyc/api"
	"lazyc/types"
)

// Env copies an environment.
func Env(env api.Env) api.Env {
	return api.Env{
		Datas:    Map(env.Datas, Data),
		Classes:  Map(env.Classes, Class),
		Insts:    Map(env.Insts, Inst),
		Values:   Map(env.Values, copySig),
		Fixities: slices.Clone(env.Fixities),
	}
}

// Data copies a data type.
func Data(d api.Data) api.Data {
	return api.Data{Name: d.Name, Params: Map(d.Params, copyTyVar), Cons: Map(d.Cons, copyDataCon)}
}

func copyDataCon(c api.Con) api.Con {
	return api.Con{Name: c.Name, Fields: Map(c.Fields, Type), Labels: slices.Clone(c.Labels)}
}

// Class copies a class.
func Class(c api.Class) api.Class {
	c.Param = copyTyVar(c.Param)
	c.Supers = slices.Clone(c.Supers)
	c.Methods = Map(c.Methods, copySig)
	c.Defaults = slices.Clone(c.Defaults)
	return c
}

func copySig(s api.Sig) api.Sig { return api.Sig{Name: s.Name, Scheme: Scheme(s.Scheme)} }

// Inst copies an instance.
func Inst(i api.Inst) api.Inst {
	i.Vars = Map(i.Vars, copyTyVar)
	i.Preds = Map(i.Preds, copyPred)
	i.Type = Type(i.Type)
	return i
}

// KModule copies a module of the kernel language.
func KModule(k api.KModule) api.KModule {
	return api.KModule{
		Name:     k.Name,
		Exports:  Exports(k.Exports),
		Env:      Env(k.Env),
		Binds:    Map(k.Binds, Bind),
		Insts:    Map(k.Insts, copyKInst),
		Defaults: Map(k.Defaults, copyKDefault),
	}
}

func copyKInst(i api.KInst) api.KInst {
	return api.KInst{Inst: Inst(i.Inst), Binds: Map(i.Binds, Bind)}
}

func copyKDefault(d api.KDefault) api.KDefault {
	return api.KDefault{Class: d.Class, Bind: Bind(d.Bind)}
}

// IsSimple reports whether a type is valid and contains no quantification.
func IsSimple(t api.Type) bool { return types.Check(t) == api.OK && !quantifies(t) }

func quantifies(t api.Type) bool {
	return t.Op == api.TForall || slices.ContainsFunc(t.Kids, quantifies)
}
