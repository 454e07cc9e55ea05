package kernel

import (
	"math/rand"
	"reflect"
	"slices"
	"strings"
	"testing"

	"lazyc/api"
	"lazyc/types"
)

func kvar(name string) api.Kernel { return api.Kernel{Op: api.KVar, Name: name} }
func kcon(name string) api.Kernel { return api.Kernel{Op: api.KCon, Name: name} }
func kint(n int) api.Kernel       { return api.Kernel{Op: api.KInt, N: n} }
func kchar(n int) api.Kernel      { return api.Kernel{Op: api.KChar, N: n} }

func kapp(f api.Kernel, args ...api.Kernel) api.Kernel {
	for _, arg := range args {
		f = api.Kernel{Op: api.KApp, Kids: []api.Kernel{f, arg}}
	}
	return f
}

// klam returns a lambda abstraction for each of the names, which are separated by blanks.
func klam(list string, body api.Kernel) api.Kernel {
	for _, name := range slices.Backward(strings.Fields(list)) {
		body = api.Kernel{Op: api.KLam, Name: name, Kids: []api.Kernel{body}}
	}
	return body
}

func bind(name string, body api.Kernel) api.KBind { return api.KBind{Name: name, Body: body} }

func klet(body api.Kernel, binds ...api.KBind) api.Kernel {
	return api.Kernel{Op: api.KLet, Binds: binds, Kids: []api.Kernel{body}}
}

func kcase(e api.Kernel, alts ...api.KAlt) api.Kernel {
	return api.Kernel{Op: api.KCase, Kids: []api.Kernel{e}, Alts: alts}
}

// acon returns an alternative for a constructor with variables, all separated by blanks.
func acon(list string, body api.Kernel) api.KAlt {
	all := strings.Fields(list)
	return api.KAlt{Op: api.AltCon, Name: all[0], Vars: all[1:], Body: body}
}

func aint(n int, body api.Kernel) api.KAlt  { return api.KAlt{Op: api.AltInt, N: n, Body: body} }
func achar(n int, body api.Kernel) api.KAlt { return api.KAlt{Op: api.AltChar, N: n, Body: body} }
func other(body api.Kernel) api.KAlt        { return api.KAlt{Op: api.AltDefault, Body: body} }

func ty(text string) api.Type {
	t, fault := types.Parse(text)
	if fault != (api.Fault{}) {
		panic(text)
	}
	return t
}

func sch(text string) api.Scheme {
	s, fault := types.ParseScheme(text)
	if fault != (api.Fault{}) {
		panic(text)
	}
	return s
}

// typed returns the expression with annotations, which are separated by semicolons.
func typed(e api.Kernel, list string) api.Kernel {
	for _, text := range strings.Split(list, ";") {
		e.Types = append(e.Types, ty(text))
	}
	return e
}

func ksig(e api.Kernel, scheme string) api.Kernel {
	return api.Kernel{Op: api.KSig, Kids: []api.Kernel{e}, Sigs: []api.Scheme{sch(scheme)}}
}

// signed returns the binding with a signature.
func signed(b api.KBind, scheme string) api.KBind {
	b.Sigs = []api.Scheme{sch(scheme)}
	return b
}

func plain(b api.KBind) api.KBind {
	b.Plain = true
	return b
}

// maker makes random valid expressions with few names, so that they often meet.
type maker struct {
	*rand.Rand
}

func (r maker) pick(list string) string {
	all := strings.Fields(list)
	return all[r.Intn(len(all))]
}

func (r maker) variable() string { return r.pick("x y z y$1 y$2 M.f + C$1") }

// variables returns up to n distinct names.
func (r maker) variables(n int) []string {
	var list []string
	for range n {
		if name := r.variable(); !slices.Contains(list, name) {
			list = append(list, name)
		}
	}
	return list
}

func (r maker) types(n int) []api.Type {
	var list []api.Type
	for range n {
		list = append(list, ty(r.pick("a [a] Int")))
	}
	return list
}

func (r maker) schemes(n int) []api.Scheme {
	var list []api.Scheme
	for range n {
		list = append(list, sch([]string{"a", "forall a. C a => a", "forall b. b"}[r.Intn(3)]))
	}
	return list
}

func (r maker) expr(deep int) api.Kernel {
	if deep == 0 || r.Intn(8) == 0 {
		return []api.Kernel{
			{Op: api.KVar, Name: r.variable(), Types: r.types(r.Intn(3))},
			{Op: api.KVar, Name: r.variable()},
			{Op: api.KCon, Name: r.pick("A : (,) C$0"), Types: r.types(r.Intn(2))},
			kint(r.Intn(5) - 2), kchar(r.Intn(256)),
		}[r.Intn(5)]
	}
	inner := func() api.Kernel { return r.expr(deep - 1) }
	switch r.Intn(6) {
	case 0:
		return api.Kernel{Op: api.KLam, Name: r.variable(), Kids: []api.Kernel{inner()}, Types: r.types(r.Intn(2))}
	case 1:
		var binds []api.KBind
		for _, name := range append(r.variables(2), "w") {
			binds = append(binds, api.KBind{Name: name, Sigs: r.schemes(r.Intn(2)), Plain: r.Intn(2) == 0, Body: inner()})
		}
		return klet(inner(), binds...)
	case 2:
		e := kcase(inner(), api.KAlt{Op: api.AltCon, Name: "A", Vars: r.variables(3), Body: inner()},
			api.KAlt{Op: api.AltCon, Name: ":", Vars: r.variables(2), Body: inner()}, other(inner()))
		e.Alts = e.Alts[r.Intn(3):]
		e.Types = r.types(2 * r.Intn(2))
		return e
	case 3:
		return kcase(inner(), aint(r.Intn(2), inner()), aint(-1, inner()), other(inner()))
	case 4:
		return api.Kernel{Op: api.KSig, Kids: []api.Kernel{inner()}, Sigs: r.schemes(1), Types: r.types(r.Intn(2))}
	}
	return kapp(inner(), inner())
}

// eachRandom calls check for random expressions.
func eachRandom(t *testing.T, n int, check func(r maker, e api.Kernel)) {
	t.Helper()
	r := maker{rand.New(rand.NewSource(13))}
	for range n {
		e := r.expr(1 + r.Intn(5))
		if code := Check(e); code != api.OK {
			t.Fatalf("error %d for %s", code, Print(e))
		}
		check(r, e)
		if t.Failed() {
			return
		}
	}
}

// copyOf returns a copy that shares no memory with v.
func copyOf(v reflect.Value) reflect.Value {
	c := reflect.New(v.Type()).Elem()
	c.Set(v)
	switch v.Kind() {
	case reflect.Struct:
		for i := range v.NumField() {
			c.Field(i).Set(copyOf(v.Field(i)))
		}
	case reflect.Slice:
		if v.Len() > 0 {
			c.Set(reflect.MakeSlice(v.Type(), v.Len(), v.Len()))
			for i := range v.Len() {
				c.Index(i).Set(copyOf(v.Index(i)))
			}
		}
	}
	return c
}

func clone[T any](tree T) T { return copyOf(reflect.ValueOf(tree)).Interface().(T) }

// places notes where the slices of a value begin; it reports whether none of them was noted before.
func places(v reflect.Value, found map[uintptr]bool) bool {
	ok := true
	switch v.Kind() {
	case reflect.Struct:
		for i := range v.NumField() {
			ok = places(v.Field(i), found) && ok
		}
	case reflect.Slice:
		if v.Cap() > 0 {
			ok = !found[v.Pointer()]
			found[v.Pointer()] = true
		}
		for i := range v.Len() {
			ok = places(v.Index(i), found) && ok
		}
	}
	return ok
}

// checkApart checks that no memory is shared between values, or within one of them.
func checkApart(t *testing.T, what string, values ...any) {
	t.Helper()
	found := map[uintptr]bool{}
	for _, v := range values {
		if !places(reflect.ValueOf(v), found) {
			t.Errorf("%s: memory is shared", what)
		}
	}
}
