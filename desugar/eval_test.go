package desugar

import (
	"strconv"
	"strings"

	"lazyc/api"
	"lazyc/base"
)

// value is a value in weak head normal form: an int, a rune, a constructed value or a function.
type value any

type constructed struct {
	name   string
	fields []*thunk
}

type function func(*thunk) value

// thunk is a value that is computed when it is needed. An exception that the computation raised is raised again.
type thunk struct {
	compute func() value
	started bool
	done    value
	raised  *raised
}

// raised is an exception, or, with the name Loop, a value that needs itself.
type raised struct {
	name string
}

// tired is raised when an evaluation takes too long.
type tired struct{}

func delay(compute func() value) *thunk { return &thunk{compute: compute} }

func done(v value) *thunk { return &thunk{done: v} }

func (t *thunk) force() value {
	switch {
	case t.done != nil:
		return t.done
	case t.raised != nil:
		panic(*t.raised)
	case t.started:
		panic(raised{"Loop"})
	}
	t.started = true
	defer func() {
		if r := recover(); r != nil {
			if exc, ok := r.(raised); ok {
				t.raised = &exc
			}
			panic(r)
		}
	}()
	t.done = t.compute()
	return t.done
}

// curried returns a function of n parameters, or its result if there are none.
func curried(n int, f func(args []*thunk) value) value {
	var from func(args []*thunk) value
	from = func(args []*thunk) value {
		if len(args) == n {
			return f(args)
		}
		return function(func(arg *thunk) value { return from(append(args[:len(args):len(args)], arg)) })
	}
	return from(nil)
}

// locals binds variables; the innermost binding comes first.
type locals struct {
	name  string
	value *thunk
	outer *locals
}

func (s *locals) with(name string, v *thunk) *locals { return &locals{name, v, s} }

func (s *locals) find(name string) *thunk {
	for ; s != nil; s = s.outer {
		if s.name == name {
			return s.value
		}
	}
	panic("no variable " + name)
}

// evaluator evaluates with a limited number of steps.
type evaluator struct {
	arity map[string]int
	steps int
}

func newEvaluator(datas []api.Data) *evaluator {
	ev := &evaluator{arity: map[string]int{}, steps: 20000}
	for _, d := range append(base.Env().Datas, datas...) {
		for _, con := range d.Cons {
			ev.arity[con.Name] = len(con.Fields)
		}
	}
	return ev
}

func (ev *evaluator) step() {
	if ev.steps--; ev.steps < 0 {
		panic(tired{})
	}
}

func (ev *evaluator) constructor(name string) value {
	return curried(ev.arity[name], func(args []*thunk) value { return constructed{name, args} })
}

// kernel evaluates a kernel expression by DOC.md, "The meaning of Core".
func (ev *evaluator) kernel(e *api.Kernel, s *locals) value {
	ev.step()
	later := func(e *api.Kernel, s *locals) *thunk { return delay(func() value { return ev.kernel(e, s) }) }
	switch e.Op {
	case api.KVar:
		return s.find(e.Name).force()
	case api.KCon:
		return ev.constructor(e.Name)
	case api.KInt:
		return e.N
	case api.KChar:
		return rune(e.N)
	case api.KApp:
		return ev.kernel(&e.Kids[0], s).(function)(later(&e.Kids[1], s))
	case api.KLam:
		return function(func(arg *thunk) value { return ev.kernel(&e.Kids[0], s.with(e.Name, arg)) })
	case api.KLet:
		for i := range e.Binds {
			s = s.with(e.Binds[i].Name, &thunk{})
		}
		for i := range e.Binds {
			*s.find(e.Binds[i].Name) = *later(&e.Binds[i].Body, s)
		}
		return ev.kernel(&e.Kids[0], s)
	case api.KCase:
		return ev.alternative(e, ev.kernel(&e.Kids[0], s), s)
	}
	return ev.kernel(&e.Kids[0], s)
}

func (ev *evaluator) alternative(e *api.Kernel, v value, s *locals) value {
	for i := range e.Alts {
		a := &e.Alts[i]
		switch a.Op {
		case api.AltCon:
			if c := v.(constructed); c.name == a.Name {
				for j, field := range c.fields {
					s = s.with(a.Vars[j], field)
				}
				return ev.kernel(&a.Body, s)
			}
		case api.AltInt:
			if v.(int) == a.N {
				return ev.kernel(&a.Body, s)
			}
		case api.AltChar:
			if int(v.(rune)) == a.N {
				return ev.kernel(&a.Body, s)
			}
		default:
			return ev.kernel(&a.Body, s)
		}
	}
	panic("no alternative")
}

func truth(is bool) value {
	if is {
		return constructed{name: "True"}
	}
	return constructed{name: "False"}
}

func isTrue(v value) bool { return v.(constructed).name == "True" }

// globals binds the primitives, and the operators of lists as a monad.
func globals() *locals {
	var s *locals
	arith := map[string]func(a, b int) value{
		"intAdd": func(a, b int) value { return a + b },
		"intMul": func(a, b int) value { return a * b },
		"intEq":  func(a, b int) value { return truth(a == b) },
		"intLe":  func(a, b int) value { return truth(a <= b) },
	}
	for name, f := range arith {
		s = s.with(name, done(curried(2, func(args []*thunk) value {
			a := args[0].force().(int)
			return f(a, args[1].force().(int))
		})))
	}
	s = s.with("intNeg", done(curried(1, func(args []*thunk) value { return -args[0].force().(int) })))
	s = s.with("raise", done(curried(1, func(args []*thunk) value { panic(raised{args[0].force().(constructed).name}) })))
	each := func(list *thunk, f func(*thunk) value) value { return concat(list, f) }
	s = s.with(">>=", done(curried(2, func(args []*thunk) value {
		return each(args[0], func(x *thunk) value { return args[1].force().(function)(x) })
	})))
	return s.with(">>", done(curried(2, func(args []*thunk) value {
		return each(args[0], func(*thunk) value { return args[1].force() })
	})))
}

// concat returns the concatenation of the lists that f returns for the elements of a list.
func concat(list *thunk, f func(*thunk) value) value {
	c := list.force().(constructed)
	if c.name == "[]" {
		return c
	}
	return joined(f(c.fields[0]), delay(func() value { return concat(c.fields[1], f) }))
}

func joined(v value, rest *thunk) value {
	c := v.(constructed)
	if c.name == "[]" {
		return rest.force()
	}
	return constructed{":", []*thunk{c.fields[0], delay(func() value { return joined(c.fields[1].force(), rest) })}}
}

// text returns the text of a value down to a depth, with the exceptions in it.
func text(v *thunk, depth int) (s string) {
	defer func() {
		if r := recover(); r != nil {
			exc, ok := r.(raised)
			if !ok {
				panic(r)
			}
			s = "!" + exc.name
		}
	}()
	if depth == 0 {
		return ".."
	}
	switch x := v.force().(type) {
	case int:
		return strconv.Itoa(x)
	case rune:
		return strconv.QuoteRune(x)
	case constructed:
		var parts []string
		for _, field := range x.fields {
			parts = append(parts, text(field, depth-1))
		}
		return x.name + "(" + strings.Join(parts, ",") + ")"
	}
	return "function"
}

// outcome returns the text of a value, unless its evaluation takes too long.
func outcome(compute func() value) (s string, known bool) {
	defer func() {
		if r := recover(); r != nil {
			if _, ok := r.(tired); !ok {
				panic(r)
			}
		}
	}()
	return text(delay(compute), 12), true
}
