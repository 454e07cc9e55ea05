package kinds

import (
	"lazyc/api"
	"lazyc/trees"
)

// openClass is a class whose kinds are to be found.
type openClass struct {
	class   *api.Class
	param   *place
	methods []openDemand
}

// fillClasses gives the parameters of classes, and the variables of their methods, the kinds that are inferred from all of them together.
func (k *known) fillClasses(group []*api.Class) api.Fault {
	for _, c := range group {
		k.classes[c.Name] = newPlace()
	}
	var open []openClass
	for _, c := range group {
		if !hasFormedMethods(c) {
			return api.Fault{Code: api.ErrArg}
		}
		o := k.openClass(c)
		if name, ok := o.stranger(k); ok {
			return api.Fault{Code: api.ErrScope, Name: name}
		}
		open = append(open, o)
	}
	var places variables
	for _, o := range open {
		if !o.infer(k) {
			return api.Fault{Code: api.ErrKind, Name: group[0].Name}
		}
		places = append(places, o.places()...)
	}
	if !areValid(places) {
		return api.Fault{Code: api.ErrKind, Name: group[0].Name}
	}
	for _, o := range open {
		o.fill()
	}
	return api.Fault{}
}

// hasFormedMethods reports whether the types of the methods are simple, and the parameter is the first variable of each.
func hasFormedMethods(c *api.Class) bool {
	for i := range c.Methods {
		s := &c.Methods[i].Scheme
		if !demandOf(s).isSimple() || len(s.Vars) == 0 || s.Vars[0].Name != c.Param.Name {
			return false
		}
	}
	return true
}

// openClass returns a declared class with formed methods, whose first variable is the parameter.
func (k *known) openClass(c *api.Class) openClass {
	o := openClass{class: c, param: k.classes[c.Name]}
	for i := range c.Methods {
		d := demandOf(&c.Methods[i].Scheme)
		places := newVariables(d.vars)
		places[0] = o.param
		o.methods = append(o.methods, k.open(d, places))
	}
	return o
}

// stranger returns the first name that is not known.
func (o openClass) stranger(k *known) (string, bool) {
	for _, super := range o.class.Supers {
		if _, ok := k.class(super); !ok {
			return super, true
		}
	}
	for _, m := range o.methods {
		if name, ok := m.stranger(); ok {
			return name, true
		}
	}
	return "", false
}

// infer finds the kinds of a class, where all names are known, and reports whether there are any.
func (o openClass) infer(k *known) bool {
	for _, super := range o.class.Supers {
		if class, ok := k.class(super); !ok || !equate(o.param, class) {
			return false
		}
	}
	for _, m := range o.methods {
		if !m.infer() {
			return false
		}
	}
	return true
}

// places returns the places of the parameter and of all variables.
func (o openClass) places() variables {
	all := variables{o.param}
	for _, m := range o.methods {
		all = append(all, m.places...)
	}
	return all
}

func (o openClass) fill() {
	o.class.Param.Kind = settled(o.param)
	for _, m := range o.methods {
		m.places.fill(m.vars)
	}
}

// classGroups returns the numbers of classes in groups, each one after those that it mentions.
func classGroups(l []api.Class) [][]int {
	return groups(trees.Map(l, func(c api.Class) string { return c.Name }), func(i int) []string { return mentioned(l[i]) })
}

// mentioned returns the names of the superclasses of a class, and of the classes in the constraints of its methods.
func mentioned(c api.Class) []string {
	var list []string
	list = append(list, c.Supers...)
	for _, m := range c.Methods {
		for _, pred := range m.Scheme.Preds {
			list = append(list, pred.Class)
		}
	}
	return list
}
