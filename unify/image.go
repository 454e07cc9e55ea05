package unify

import "lazyc/api"

// image is a type that a substitution has made, with its size and its depth. Its parts may share memory, so that one that is too large needs little memory, too.
type image struct {
	t           api.Type
	size, depth int
}

func (i image) isValid() bool { return i.size <= api.MaxSize && i.depth <= api.MaxDepth }

// images is a substitution.
type images map[string]image

// of returns the image of a simple type.
func (m images) of(t api.Type) image {
	if t.Op == api.TVar {
		if found, ok := m[t.Name]; ok {
			return found
		}
	}
	if t.Op != api.TApp {
		return image{t, 1, 1}
	}
	function, argument := m.of(t.Kids[0]), m.of(t.Kids[1])
	return image{
		t:     api.Type{Op: api.TApp, Kids: []api.Type{function.t, argument.t}},
		size:  function.size + argument.size + 1,
		depth: max(function.depth, argument.depth) + 1,
	}
}
