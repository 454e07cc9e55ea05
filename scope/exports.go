package scope

import (
	"lazyc/api"
	"lazyc/names"
	"lazyc/trees"
)

// exports returns what a module with this top-level scope exports.
func (t *top) exports(m api.Module) ([]api.Export, api.Fault) {
	if m.All {
		return t.allExports(m.Decls), api.Fault{}
	}
	var list []api.Export
	for _, element := range m.Exports {
		export, fault := t.export(element)
		if fault != (api.Fault{}) {
			return nil, fault
		}
		list = append(list, export)
	}
	list = merged(list)
	if fault := clash(list); fault != (api.Fault{}) {
		return nil, fault
	}
	return list, api.Fault{}
}

// allExports returns everything that the declarations declare.
func (t *top) allExports(decls []api.Decl) []api.Export {
	join := func(name string) string { return names.Join(t.module, name) }
	var list []api.Export
	for i := range decls {
		for _, d := range declared(&decls[i]) {
			list = append(list, api.Export{Name: join(d.name), Subs: trees.Map(d.parts, join)})
		}
	}
	return list
}

// export resolves an element of an export list.
func (t *top) export(element api.Export) (api.Export, api.Fault) {
	s := spaceOf(element.Name)
	name, fault := t.find(s, element.Name)
	if fault != (api.Fault{}) || s == valueSpace {
		return api.Export{Name: name}, fault
	}
	export := api.Export{Name: name}
	named := map[string]string{}
	for _, part := range t.parts[name] {
		if t.reached[part] {
			named[simple(part)] = part
			if element.With {
				export.Subs = append(export.Subs, part)
			}
		}
	}
	for _, sub := range element.Subs {
		part, ok := named[sub]
		if !ok {
			return api.Export{}, api.Fault{Code: api.ErrExport, Name: sub}
		}
		export.Subs = append(export.Subs, part)
	}
	return export, api.Fault{}
}

// merged returns one export for each exported entity, with the parts of all of its elements, each once.
func merged(list []api.Export) []api.Export {
	places := map[string]int{}
	var once []api.Export
	for _, export := range list {
		at, ok := places[export.Name]
		if !ok {
			at = len(once)
			places[export.Name] = at
			once = append(once, api.Export{Name: export.Name})
		}
		once[at].Subs = append(once[at].Subs, export.Subs...)
	}
	for i := range once {
		once[i].Subs = trees.Distinct(once[i].Subs)
	}
	return once
}

// clash returns the first simple name that different exported entities have in one name space.
func clash(list []api.Export) api.Fault {
	taken := map[entity]string{}
	isNew := func(s space, name string) bool {
		under := entity{s, simple(name)}
		if other, ok := taken[under]; ok && other != name {
			return false
		}
		taken[under] = name
		return true
	}
	for _, export := range list {
		if !isNew(spaceOf(export.Name), export.Name) {
			return api.Fault{Code: api.ErrTwice, Name: simple(export.Name)}
		}
		for _, sub := range export.Subs {
			if !isNew(valueSpace, sub) {
				return api.Fault{Code: api.ErrTwice, Name: simple(sub)}
			}
		}
	}
	return api.Fault{}
}
