package kinds

import "lazyc/api"

// reader determines the kinds of types whose variables have the given kinds.
type reader struct {
	known *known
	vars  map[string]*place
}

// kind returns the kind of a type, or the first error, from the left to the right.
func (r reader) kind(t api.Type) (*place, api.Errno) {
	switch t.Op {
	case api.TVar:
		p, ok := r.vars[t.Name]
		return p, errorUnless(ok, api.ErrScope)
	case api.TCon:
		p, ok := r.known.con(t.Name)
		return p, errorUnless(ok, api.ErrScope)
	case api.TForall:
		return r.quantification(t)
	}
	function, code := r.kind(t.Kids[0])
	if code != api.OK {
		return nil, code
	}
	argument, code := r.kind(t.Kids[1])
	if code != api.OK {
		return nil, code
	}
	p, ok := applied(function, argument)
	return p, errorUnless(ok, api.ErrKind)
}

func errorUnless(ok bool, code api.Errno) api.Errno {
	if ok {
		return api.OK
	}
	return code
}

// quantification returns the kind of a quantification, whose variable hides one of the same name.
func (r reader) quantification(t api.Type) (*place, api.Errno) {
	hidden, hides := r.vars[t.Name]
	r.vars[t.Name] = placeOf(t.Bound)
	body, code := r.kind(t.Kids[0])
	if hides {
		r.vars[t.Name] = hidden
	} else {
		delete(r.vars, t.Name)
	}
	if code != api.OK {
		return nil, code
	}
	star := starPlace()
	return star, errorUnless(equate(body, star), api.ErrKind)
}

// has gives a simple type, whose names are known, a kind, and reports whether that is possible.
func (r reader) has(t api.Type, want *place) bool {
	p, code := r.kind(t)
	return code == api.OK && equate(p, want)
}

// haveStar is has for several types and the kind *.
func (r reader) haveStar(list []api.Type) bool {
	for _, t := range list {
		if !r.has(t, starPlace()) {
			return false
		}
	}
	return true
}

// firstStranger returns the first name in a list of simple types that is not known.
func (r reader) firstStranger(list []api.Type) (string, bool) {
	for _, t := range list {
		if name, ok := r.stranger(t); ok {
			return name, true
		}
	}
	return "", false
}

// stranger returns the first name in a simple type that is not known.
func (r reader) stranger(t api.Type) (string, bool) {
	ok := true
	switch t.Op {
	case api.TVar:
		_, ok = r.vars[t.Name]
	case api.TCon:
		_, ok = r.known.con(t.Name)
	}
	if !ok {
		return t.Name, true
	}
	return r.firstStranger(t.Kids)
}
