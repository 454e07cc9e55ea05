package scope

import (
	"slices"

	"lazyc/api"
	"lazyc/base"
	"lazyc/names"
	"lazyc/syntax"
)

// top is the top-level scope of a module.
type top struct {
	known
	module  string
	meaning [spaces]map[string][]string // the resolved names that a name of the source stands for, each once
	builtin [spaces]map[string]bool
	reached map[string]bool // the values that are in scope under any name
}

// topOf returns the top-level scope of a module, or the first fault of the module, its declared names and its imports.
func topOf(m api.Module, imports []api.Iface) (*top, api.Fault) {
	if syntax.Check(m) != api.OK || !areDistinct(imports) || !canDeclare(&m) {
		return nil, api.Fault{Code: api.ErrArg}
	}
	if fault := twice(m.Decls); fault != (api.Fault{}) {
		return nil, fault
	}
	return newTop(m, imports)
}

// areDistinct reports whether no two interfaces have the same module.
func areDistinct(imports []api.Iface) bool {
	var modules []string
	for _, i := range imports {
		modules = append(modules, i.Module)
	}
	_, found := repeated(modules)
	return !found
}

func newTop(m api.Module, imports []api.Iface) (*top, api.Fault) {
	t := &top{known: knownOf(&m, imports), module: m.Name, reached: map[string]bool{}}
	for s := range spaces {
		t.meaning[s] = map[string][]string{}
		t.builtin[s] = map[string]bool{}
	}
	t.addBuiltin()
	for i := range m.Decls {
		t.declare(&m.Decls[i])
	}
	for _, d := range m.Imports {
		if fault := t.bring(d, imports); fault != (api.Fault{}) {
			return nil, fault
		}
	}
	return t, api.Fault{}
}

func (t *top) addBuiltin() {
	env := base.Env()
	for _, data := range env.Datas {
		t.builtin[typeSpace][data.Name] = true
	}
	for _, value := range env.Values {
		t.builtin[valueSpace][value.Name] = true
	}
}

// declare adds what a declaration declares, with and without the module as qualifier.
func (t *top) declare(d *api.Decl) {
	for _, each := range declared(d) {
		t.add(t.own(each.space, each.name), each.name, t.module)
		for _, part := range each.parts {
			t.add(t.own(valueSpace, part), part, t.module)
		}
	}
}

// own returns the entity that the module declares under a name.
func (t *top) own(s space, name string) entity { return entity{s, names.Join(t.module, name)} }

// add puts an entity into scope under a name and under the qualified name.
func (t *top) add(e entity, name, qualifier string) {
	t.mean(e, name)
	t.mean(e, names.Join(qualifier, name))
}

// mean puts an entity into scope under a name; what cannot be qualified has no qualified name.
func (t *top) mean(e entity, name string) {
	if name == "" {
		return
	}
	if list := t.meaning[e.space][name]; !slices.Contains(list, e.name) {
		t.meaning[e.space][name] = append(list, e.name)
	}
	if e.space == valueSpace {
		t.reached[e.name] = true
	}
}

// bring puts into scope what an import imports.
func (t *top) bring(d api.Import, imports []api.Iface) api.Fault {
	at := slices.IndexFunc(imports, func(i api.Iface) bool { return i.Module == d.Module })
	if at < 0 {
		return api.Fault{Code: api.ErrModule, Name: d.Module}
	}
	list, fault := imported(d, imports[at])
	for _, e := range list {
		if d.Qualified {
			t.mean(e, names.Join(d.As, simple(e.name)))
		} else {
			t.add(e, simple(e.name), d.As)
		}
	}
	return fault
}

// find looks a name up at top level.
func (t *top) find(s space, name string) (string, api.Fault) {
	switch list := t.meaning[s][name]; {
	case len(list) == 1:
		return list[0], api.Fault{}
	case len(list) > 1:
		return "", api.Fault{Code: api.ErrAmbiguous, Name: name}
	case t.builtin[s][name]:
		return name, api.Fault{}
	}
	return "", api.Fault{Code: api.ErrScope, Name: name}
}
