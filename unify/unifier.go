package unify

import (
	"lazyc/api"
	"lazyc/trees"
	"lazyc/types"
)

// unifier is a unification of pairs of simple types.
type unifier struct {
	todo  [][2]api.Type              // the pairs, the last one first
	order []string                   // the variables that have a binding, in the order in which they got it
	bound images                     // their types, in which no variable with a binding occurs
	users map[string]map[string]bool // for variables without a binding: the variables in whose types they occur
}

func newUnifier() *unifier {
	return &unifier{bound: images{}, users: map[string]map[string]bool{}}
}

// run makes the types of all pairs equal.
func (u *unifier) run() api.Errno {
	for len(u.todo) > 0 {
		last := len(u.todo) - 1
		a, b := u.resolved(u.todo[last][0]), u.resolved(u.todo[last][1])
		u.todo = u.todo[:last]
		code := api.OK
		switch {
		case a.Op == api.TVar && b.Op == api.TVar && a.Name == b.Name:
		case a.Op == api.TVar:
			code = u.bind(a.Name, b)
		case b.Op == api.TVar:
			code = u.bind(b.Name, a)
		case a.Op != b.Op || a.Name != b.Name:
			code = api.ErrType
		case a.Op == api.TApp:
			u.todo = append(u.todo, [2]api.Type{a.Kids[1], b.Kids[1]}, [2]api.Type{a.Kids[0], b.Kids[0]})
		}
		if code != api.OK {
			return code
		}
	}
	return api.OK
}

// resolved returns the type of a variable that has a binding, and otherwise t.
func (u *unifier) resolved(t api.Type) api.Type {
	if found, ok := u.bound[t.Name]; ok && t.Op == api.TVar {
		return found.t
	}
	return t
}

// bind binds a variable without a binding to a type.
func (u *unifier) bind(name string, t api.Type) api.Errno {
	if u.occurs(name, t) {
		return api.ErrInfinite
	}
	image := u.bound.of(t)
	if !image.isValid() {
		return api.ErrLong
	}
	replacement := images{name: image}
	changed := images{}
	for user := range u.users[name] {
		changed[user] = replacement.of(u.bound[user].t)
		if !changed[user].isValid() {
			return api.ErrLong
		}
	}
	changed[name] = image
	u.update(changed, image.t)
	delete(u.users, name)
	u.order = append(u.order, name)
	return api.OK
}

// occurs reports whether a variable without a binding occurs in a type when the substitution is applied to it.
func (u *unifier) occurs(name string, t api.Type) bool {
	for _, v := range types.Free(t) {
		if v == name || u.users[name][v] {
			return true
		}
	}
	return false
}

// update changes the types of variables, in all of which the variables of t occur from now on.
func (u *unifier) update(changed images, t api.Type) {
	for user, image := range changed {
		u.bound[user] = image
	}
	for _, v := range types.Free(t) {
		if u.users[v] == nil {
			u.users[v] = map[string]bool{}
		}
		for user := range changed {
			u.users[v][user] = true
		}
	}
}

// bindings returns the substitution.
func (u *unifier) bindings() []api.Binding {
	return trees.Map(u.order, func(name string) api.Binding {
		return api.Binding{Name: name, Type: trees.Type(u.bound[name].t)}
	})
}
