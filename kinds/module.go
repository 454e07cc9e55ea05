package kinds

import (
	"slices"

	"lazyc/api"
)

// fillModule gives all type variables that a module declares their kinds.
func (k *known) fillModule(m *api.KModule) api.Fault {
	if fault := k.fillDatas(m.Env.Datas); fault != (api.Fault{}) {
		return fault
	}
	for _, group := range classGroups(m.Env.Classes) {
		var classes []*api.Class
		for _, i := range group {
			classes = append(classes, &m.Env.Classes[i])
		}
		if fault := k.fillClasses(classes); fault != (api.Fault{}) {
			return fault
		}
	}
	f := filler{known: k}
	f.module(m)
	return f.fault
}

// filler gives the type variables of instances and signatures their kinds, up to the first fault.
type filler struct {
	known *known
	fault api.Fault
}

// module fills everything in a module but its data types and classes.
func (f *filler) module(m *api.KModule) {
	for i := range m.Env.Insts {
		f.inst(&m.Env.Insts[i])
	}
	for i := range m.Env.Values {
		sig := &m.Env.Values[i]
		f.scheme(&sig.Scheme, sig.Name)
	}
	f.binds(m.Binds)
	for i := range m.Insts {
		f.inst(&m.Insts[i].Inst)
		f.binds(m.Insts[i].Binds)
	}
	for i := range m.Defaults {
		f.bind(&m.Defaults[i].Bind)
	}
}

// inst fills an instance. Its type has the kind of the class, just as if this were a constraint.
func (f *filler) inst(inst *api.Inst) {
	own := api.Pred{Class: inst.Class, Type: inst.Type}
	preds := slices.Concat([]api.Pred{own}, inst.Preds)
	f.note(inst.Name, func() api.Fault { return f.known.fill(demand{vars: inst.Vars, preds: preds}) })
}

// scheme fills the signature of a name.
func (f *filler) scheme(s *api.Scheme, name string) {
	f.note(name, func() api.Fault { return f.known.fillScheme(s) })
}

// note does something, unless there is a fault; its fault gets a name.
func (f *filler) note(name string, do func() api.Fault) {
	if f.fault != (api.Fault{}) {
		return
	}
	if fault := do(); fault != (api.Fault{}) {
		f.fault = api.Fault{Code: fault.Code, Name: name}
	}
}

func (f *filler) binds(list []api.KBind) {
	for i := range list {
		f.bind(&list[i])
	}
}

// bind fills the signatures of a binding, and then those in its body.
func (f *filler) bind(b *api.KBind) {
	for i := range b.Sigs {
		f.scheme(&b.Sigs[i], b.Name)
	}
	f.expr(&b.Body)
}

// expr fills the signatures in an expression, which need not be valid, in the order of kernel.All.
func (f *filler) expr(e *api.Kernel) {
	if e.Op == api.KSig {
		for i := range e.Sigs {
			f.scheme(&e.Sigs[i], "")
		}
	}
	f.binds(e.Binds)
	for i := range e.Kids {
		f.expr(&e.Kids[i])
	}
	for i := range e.Alts {
		f.expr(&e.Alts[i].Body)
	}
}
