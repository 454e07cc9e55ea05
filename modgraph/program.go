package modgraph

import (
	"cmp"
	"slices"

	"lazyc/api"
)

// set is a set of modules, by their names or by their nodes.
type set[K cmp.Ordered] map[K]bool

func (s set[K]) sorted() []K {
	var list []K
	for key := range s {
		list = append(list, key)
	}
	slices.Sort(list)
	return list
}

// program is a consistent list of modules. The names are ascending, so that an order of nodes is one of names; an edge leads from a module to one that it imports.
type program struct {
	names   []string
	imports api.Graph
}

// consistent returns the program, or the first fault of the list other than a cycle.
func consistent(l []api.Module) (program, api.Fault) {
	if len(l) > api.MaxModules {
		return program{}, api.Fault{Code: api.ErrLong}
	}
	names := set[string]{}
	for _, m := range l {
		if names[m.Name] {
			return program{}, api.Fault{Code: api.ErrTwice, Name: m.Name}
		}
		names[m.Name] = true
	}
	p := program{names: names.sorted()}
	p.imports.Edges = make([][]int, len(l))
	for _, m := range l {
		imported := set[int]{}
		for _, i := range m.Imports {
			node, ok := p.node(i.Module)
			if !ok {
				return program{}, api.Fault{Code: api.ErrModule, Name: i.Module}
			}
			imported[node] = true
		}
		importer, _ := p.node(m.Name)
		p.imports.Edges[importer] = imported.sorted()
	}
	return p, api.Fault{}
}

func (p program) node(name string) (int, bool) { return slices.BinarySearch(p.names, name) }

func (p program) list(nodes []int) []string {
	var names []string
	for _, node := range nodes {
		names = append(names, p.names[node])
	}
	return names
}
