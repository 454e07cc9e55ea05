package match

import (
	"slices"

	"lazyc/api"
	"lazyc/patterns"
	"lazyc/syntax"
	"lazyc/trees"
)

// verdict is the result of matching a value.
type verdict int

const (
	unknown verdict = iota
	fails
	matches
)

// matcher collects the values of variables. They belong to the value that is matched.
type matcher struct {
	values []api.Value
}

// match matches a value against a well-formed pattern.
func (m *matcher) match(p api.Pat, v *api.Value) verdict {
	switch p = patterns.Simple(p); p.Op {
	case api.PVar:
		m.values = append(m.values, *v)
		return matches
	case api.PWild:
		return matches
	case api.PAs:
		m.values = append(m.values, *v)
		return m.match(p.Kids[0], v)
	case api.PLazy:
		m.matchLazily(p.Kids[0], v)
		return matches
	case api.PRecord:
		return matchRecord(&p, v)
	}
	if v.Op == api.VBad || v.Op == api.VCut {
		return unknown
	}
	if !isHead(&p, v) {
		return fails
	}
	for i := range p.Kids {
		if found := m.match(p.Kids[i], &v.Kids[i]); found != matches {
			return found
		}
	}
	return matches
}

// isHead reports whether an evaluated value is the literal, or has the constructor, of a pattern.
func isHead(p *api.Pat, v *api.Value) bool {
	switch p.Op {
	case api.PInt:
		return v.Op == api.VInt && v.N == p.N
	case api.PChar:
		return v.Op == api.VChar && v.N == p.N
	}
	return v.Op == api.VCon && v.Name == p.Name && len(v.Kids) == len(p.Kids)
}

// matchLazily collects the values of the variables of an irrefutable pattern.
func (m *matcher) matchLazily(p api.Pat, v *api.Value) {
	var inner matcher
	substitute := api.Value{Op: api.VCut}
	switch inner.match(p, v) {
	case matches:
		m.values = append(m.values, inner.values...)
		return
	case fails:
		substitute = api.Value{Op: api.VBad, Set: api.ExcSet{List: []api.Exc{{Con: noMatch}}}}
	}
	for range syntax.Binders(p) {
		m.values = append(m.values, substitute)
	}
}

// matchRecord matches a value without the data type, so that the fields of labels are not known.
func matchRecord(p *api.Pat, v *api.Value) verdict {
	switch {
	case v.Op == api.VBad || v.Op == api.VCut:
		return unknown
	case v.Op != api.VCon || v.Name != p.Name:
		return fails
	case len(p.Names) > 0:
		return unknown
	}
	return matches
}

// matchRow matches as many values as there are patterns.
func matchRow(pats []api.Pat, values []api.Value) verdict {
	for i := range pats {
		if _, ok, known := Matches(pats[i], values[i]); !ok {
			if known {
				return fails
			}
			return unknown
		}
	}
	return matches
}

func copyValue(v api.Value) api.Value {
	v.Kids = trees.Map(v.Kids, copyValue)
	v.Set.List = slices.Clone(v.Set.List)
	return v
}
