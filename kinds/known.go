package kinds

import (
	"slices"

	"lazyc/api"
	"lazyc/base"
)

// known finds the kinds of type constructors and classes: those that are declared here come before those of the environment, and these before the built-in ones.
type known struct {
	env     api.Env
	builtin []api.Data        // once they are needed
	cons    map[string]*place // those that are declared here, or have been found
	classes map[string]*place
}

func newKnown(env api.Env) *known {
	return &known{env: env, cons: map[string]*place{}, classes: map[string]*place{}}
}

// con returns the kind of a type constructor, if it is known.
func (k *known) con(name string) (*place, bool) {
	found, ok := k.cons[name]
	if ok {
		return found, true
	}
	data, ok := k.data(name)
	if !ok {
		return nil, false
	}
	var params []*place
	for _, param := range data.Params {
		params = append(params, placeOf(param.Kind))
	}
	k.cons[name] = function(params, starPlace())
	return k.cons[name], true
}

// data returns a data type that is not declared here, if it is known.
func (k *known) data(name string) (api.Data, bool) {
	if found, ok := dataNamed(k.env.Datas, name); ok {
		return found, true
	}
	if k.builtin == nil {
		k.builtin = base.Env().Datas
	}
	return dataNamed(k.builtin, name)
}

func dataNamed(list []api.Data, name string) (api.Data, bool) {
	i := slices.IndexFunc(list, func(d api.Data) bool { return d.Name == name })
	if i < 0 {
		return api.Data{}, false
	}
	return list[i], true
}

// class returns the kind of a class, if it is known.
func (k *known) class(name string) (*place, bool) {
	if found, ok := k.classes[name]; ok {
		return found, true
	}
	i := slices.IndexFunc(k.env.Classes, func(c api.Class) bool { return c.Name == name })
	if i < 0 {
		return nil, false
	}
	k.classes[name] = placeOf(k.env.Classes[i].Param.Kind)
	return k.classes[name], true
}
