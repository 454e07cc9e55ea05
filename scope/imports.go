package scope

import (
	"slices"

	"lazyc/api"
)

// exported is what an interface exports, by simple names.
type exported struct {
	all    []entity
	types  map[string][]api.Export
	values map[string][]entity
}

func exportedBy(i api.Iface) exported {
	e := exported{types: map[string][]api.Export{}, values: map[string][]entity{}}
	for _, export := range i.Exports {
		if spaceOf(export.Name) == typeSpace {
			e.all = append(e.all, entity{typeSpace, export.Name})
			e.types[simple(export.Name)] = append(e.types[simple(export.Name)], export)
		} else {
			e.value(export.Name)
		}
		for _, sub := range export.Subs {
			e.value(sub)
		}
	}
	return e
}

func (e *exported) value(name string) {
	value := entity{valueSpace, name}
	e.all = append(e.all, value)
	e.values[simple(name)] = append(e.values[simple(name)], value)
}

// named returns the entities that an element of a list names, and the names in it that are not exported, or not as a part.
func (e *exported) named(element api.Export) (found []entity, missing []string) {
	if spaceOf(element.Name) == valueSpace {
		found = e.values[element.Name]
		if len(found) == 0 {
			missing = []string{element.Name}
		}
		return found, missing
	}
	parts := map[string][]entity{}
	for _, export := range e.types[element.Name] {
		found = append(found, entity{typeSpace, export.Name})
		for _, sub := range export.Subs {
			part := entity{valueSpace, sub}
			if element.With {
				found = append(found, part)
			}
			parts[simple(sub)] = append(parts[simple(sub)], part)
		}
	}
	if len(found) == 0 {
		missing = append(missing, element.Name)
	}
	for _, sub := range element.Subs {
		found = append(found, parts[sub]...)
		if len(parts[sub]) == 0 {
			missing = append(missing, sub)
		}
	}
	return found, missing
}

// imported returns the entities that an import brings into scope.
func imported(d api.Import, i api.Iface) ([]entity, api.Fault) {
	e := exportedBy(i)
	switch {
	case d.All:
		return e.all, api.Fault{}
	case d.Hiding:
		return e.without(d.Names), api.Fault{}
	}
	var list []entity
	for _, element := range d.Names {
		found, missing := e.named(element)
		if len(missing) > 0 {
			return nil, api.Fault{Code: api.ErrExport, Name: missing[0]}
		}
		list = append(list, found...)
	}
	return list, api.Fault{}
}

// without returns what is exported except for what the elements of a list name.
func (e *exported) without(elements []api.Export) []entity {
	hidden := map[entity]bool{}
	for _, element := range elements {
		found, _ := e.named(element)
		// A type's name hides a constructor of this name, too.
		for _, each := range slices.Concat(found, e.values[element.Name]) {
			hidden[each] = true
		}
	}
	var list []entity
	for _, each := range e.all {
		if !hidden[each] {
			list = append(list, each)
		}
	}
	return list
}
