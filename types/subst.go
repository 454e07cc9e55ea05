package types

import (
	"lazyc/api"
	"lazyc/names"
)

// Free returns the free type variables, in the order of their first occurrence.
func Free(t api.Type) []string {
	if !isValid(t) {
		return nil
	}
	return free(t)
}

// free is Free for a part of a valid type.
func free(t api.Type) []string {
	var list []string
	seen := map[string]bool{}
	eachFree(t, func(name string, _ int) {
		if !seen[name] {
			seen[name] = true
			list = append(list, name)
		}
	})
	return list
}

// eachFree calls visit for each occurrence of a free variable in t, from left to right, with its depth below t.
func eachFree(t api.Type, visit func(name string, depth int)) {
	bound := map[string]int{} // by how many quantifications around the present node a name is bound
	var walk func(t api.Type, depth int)
	walk = func(t api.Type, depth int) {
		switch t.Op {
		case api.TVar:
			if bound[t.Name] == 0 {
				visit(t.Name, depth)
			}
		case api.TForall:
			bound[t.Name]++
			defer func() { bound[t.Name]-- }()
		}
		for _, kid := range t.Kids {
			walk(kid, depth+1)
		}
	}
	walk(t, 0)
}

// Subst applies a simultaneous substitution without capturing variables.
func Subst(s []api.Binding, t api.Type) api.Type {
	if !isValid(t) {
		return api.Type{}
	}
	types := map[string]api.Type{}
	for _, binding := range s {
		if !isVarName(binding.Name) || !isValid(binding.Type) {
			return api.Type{}
		}
		if _, ok := types[binding.Name]; !ok {
			types[binding.Name] = binding.Type
		}
	}
	if !fits(types, t) {
		return api.Type{}
	}
	return replacementsFor(types, t).apply(t)
}

// fits reports whether the result of a substitution has a valid size and depth. It is found before the result is built, which could be too large for any memory.
func fits(types map[string]api.Type, t api.Type) bool {
	size, depth := Size(t), Depth(t)
	sizes, depths := map[string]int{}, map[string]int{}
	eachFree(t, func(name string, at int) {
		by, ok := types[name]
		if !ok {
			return
		}
		if sizes[name] == 0 {
			sizes[name], depths[name] = Size(by), Depth(by)
		}
		size += sizes[name] - 1
		depth = max(depth, at+depths[name])
	})
	return size <= api.MaxSize && depth <= api.MaxDepth
}

// replacement is the type that replaces a variable, with its free variables.
type replacement struct {
	by   api.Type
	free []string
}

// replacements is a substitution, by the names of the variables.
type replacements map[string]replacement

// replacementsFor returns the substitution of the free variables of t.
func replacementsFor(types map[string]api.Type, t api.Type) replacements {
	found := replacements{}
	for _, name := range free(t) {
		if by, ok := types[name]; ok {
			found[name] = replacement{by, free(by)}
		}
	}
	return found
}

// apply returns t with its free variables replaced.
func (r replacements) apply(t api.Type) api.Type {
	switch t.Op {
	case api.TVar:
		if found, ok := r[t.Name]; ok {
			return clone(found.by)
		}
		return t
	case api.TForall:
		return r.applyInside(t)
	}
	t.Kids = mapped(t.Kids, r.apply)
	return t
}

// applyInside is apply for a quantification, whose variable is renamed where it would capture another one.
func (r replacements) applyInside(t api.Type) api.Type {
	body := free(t.Kids[0])
	inside := replacements{}
	used := map[string]bool{} // the free variables of the types that replace others
	avoided := body
	for _, name := range body {
		found, ok := r[name]
		if !ok || name == t.Name {
			continue
		}
		inside[name] = found
		for _, v := range found.free {
			used[v] = true
		}
		avoided = append(avoided, found.free...)
	}
	name := t.Name
	if used[name] {
		name = names.NewSupply(avoided...).Fresh(name)
		inside[t.Name] = replacement{variable(name), []string{name}}
	}
	return api.Type{Op: api.TForall, Name: name, Bound: cloneKind(t.Bound), Kids: []api.Type{inside.apply(t.Kids[0])}}
}
