// Package freevars collects the free variables of a tree, whatever its language is. It belongs to no layer.
package freevars

import "slices"

// Finder collects the names that occur free, in the order of their first occurrence, while a tree is visited.
type Finder struct {
	bound map[string]int // by how many scopes around the present place a name is bound
	found map[string]bool
	list  []string
}

// New returns a finder that has found nothing.
func New() *Finder { return &Finder{bound: map[string]int{}, found: map[string]bool{}} }

// Occurrence notes a name where it is used.
func (f *Finder) Occurrence(name string) {
	if f.bound[name] == 0 && !f.found[name] {
		f.found[name] = true
		f.list = append(f.list, name)
	}
}

// InScope notes what visit notes, in a scope that binds names.
func (f *Finder) InScope(names []string, visit func()) {
	for _, name := range names {
		f.bound[name]++
	}
	visit()
	for _, name := range names {
		f.bound[name]--
	}
}

// Has reports whether a name was found.
func (f *Finder) Has(name string) bool { return f.found[name] }

// Names returns the names that were found.
func (f *Finder) Names() []string { return slices.Clone(f.list) }
