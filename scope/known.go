package scope

import (
	"lazyc/api"
	"lazyc/base"
	"lazyc/names"
	"lazyc/trees"
)

// known is what declarations and interfaces say of types, classes and constructors; all names are resolved.
type known struct {
	parts   map[string][]string // the parts of a type or class, in order
	methods map[string][]string // the methods of a class
	labels  map[string][]string // the labels of a constructor
	owners  map[string]string   // the type to which a label belongs
}

// knownOf returns what a module and interfaces say; of two descriptions of one type or class the first one counts.
func knownOf(m *api.Module, imports []api.Iface) known {
	k := known{parts: map[string][]string{}, methods: map[string][]string{}, labels: map[string][]string{}, owners: map[string]string{}}
	for i := range m.Decls {
		k.declaration(m.Name, &m.Decls[i])
	}
	for _, i := range imports {
		for _, data := range i.Env.Datas {
			k.data(data)
		}
		for _, class := range i.Env.Classes {
			k.class(class)
		}
	}
	return k
}

// declaration adds what a declaration of a module declares.
func (k known) declaration(module string, d *api.Decl) {
	join := func(name string) string { return names.Join(module, name) }
	switch d.Op {
	case api.DData:
		data := api.Data{Name: join(d.Name)}
		for _, con := range d.Cons {
			data.Cons = append(data.Cons, api.Con{Name: join(con.Name), Labels: trees.Map(con.Labels, join)})
		}
		k.data(data)
	case api.DClass:
		class := api.Class{Name: join(d.Name)}
		for _, method := range methodsOf(d) {
			class.Methods = append(class.Methods, api.Sig{Name: join(method)})
		}
		k.class(class)
	}
}

// isNew reports whether a type or class has no description yet; a built-in type has no parts, whatever an interface says.
func (k known) isNew(name string) bool {
	_, ok := k.parts[name]
	return !ok && !base.Builtin(name)
}

func (k known) data(d api.Data) {
	if !k.isNew(d.Name) {
		return
	}
	var cons, labels []string
	for _, con := range d.Cons {
		cons = append(cons, con.Name)
		labels = append(labels, con.Labels...)
		k.labels[con.Name] = con.Labels
	}
	for _, label := range labels {
		k.owners[label] = d.Name
	}
	k.parts[d.Name] = append(cons, trees.Distinct(labels)...)
}

func (k known) class(c api.Class) {
	if !k.isNew(c.Name) {
		return
	}
	var methods []string
	for _, method := range c.Methods {
		methods = append(methods, method.Name)
	}
	k.parts[c.Name], k.methods[c.Name] = methods, methods
}
