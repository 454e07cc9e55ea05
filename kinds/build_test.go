package kinds_test

import (
	"strings"
	"testing"

	"lazyc/api"
	"lazyc/kinds"
	"lazyc/types"
)

func parsed(t *testing.T, text string) api.Type {
	t.Helper()
	result, fault := types.Parse(text)
	if fault != (api.Fault{}) {
		t.Fatalf("%s: %v", text, fault)
	}
	return result
}

func parsedKind(t *testing.T, text string) api.Kind {
	t.Helper()
	k, fault := types.ParseKind(text)
	if fault != (api.Fault{}) {
		t.Fatalf("%s: %v", text, fault)
	}
	return k
}

func parsedScheme(t *testing.T, text string) api.Scheme {
	t.Helper()
	s, fault := types.ParseScheme(text)
	if fault != (api.Fault{}) {
		t.Fatalf("%s: %v", text, fault)
	}
	return s
}

// data returns the data type of a declaration as T a b = A a (b Int) | B.
func data(t *testing.T, text string) api.Data {
	t.Helper()
	left, right, has := strings.Cut(text, "=")
	head, params := types.Spine(parsed(t, left))
	d := api.Data{Name: head.Name}
	for _, param := range params {
		d.Params = append(d.Params, api.TyVar{Name: param.Name})
	}
	if !has {
		return d
	}
	for _, con := range strings.Split(right, "|") {
		head, fields := types.Spine(parsed(t, con))
		d.Cons = append(d.Cons, api.Con{Name: head.Name, Fields: fields})
	}
	return d
}

func datas(t *testing.T, texts ...string) []api.Data {
	t.Helper()
	var l []api.Data
	for _, text := range texts {
		l = append(l, data(t, text))
	}
	return l
}

// class returns the class of a text as C a : Super Super; each of the methods is a scheme without its first variable and constraint.
func class(t *testing.T, text string, methods ...string) api.Class {
	t.Helper()
	left, supers, _ := strings.Cut(text, ":")
	words := strings.Fields(left)
	c := api.Class{Name: words[0], Param: api.TyVar{Name: words[1]}, Supers: strings.Fields(supers)}
	own := api.Pred{Class: c.Name, Type: api.Type{Op: api.TVar, Name: c.Param.Name}}
	for i, method := range methods {
		s := parsedScheme(t, method)
		s.Vars = append([]api.TyVar{c.Param}, s.Vars...)
		s.Preds = append([]api.Pred{own}, s.Preds...)
		c.Methods = append(c.Methods, api.Sig{Name: "m" + string(rune('0'+i)), Scheme: s})
	}
	return c
}

// inst returns the instance with the name inst of a scheme whose type is that of the instance.
func inst(t *testing.T, class, scheme string) api.Inst {
	t.Helper()
	s := parsedScheme(t, scheme)
	return api.Inst{Name: "inst", Class: class, Vars: s.Vars, Preds: s.Preds, Type: s.Type}
}

// kindsOf returns the text of the kinds of variables.
func kindsOf(vars []api.TyVar) string {
	var words []string
	for _, v := range vars {
		words = append(words, v.Name+" :: "+types.PrintKind(v.Kind))
	}
	return strings.Join(words, ", ")
}

// kindsOfDatas returns the text of the kinds of the parameters.
func kindsOfDatas(l []api.Data) string {
	var texts []string
	for _, d := range l {
		texts = append(texts, d.Name+" "+kindsOf(d.Params))
	}
	return strings.Join(texts, "; ")
}

// inferredDatas returns the data types with their kinds.
func inferredDatas(t *testing.T, env api.Env, l []api.Data) []api.Data {
	t.Helper()
	result, fault := kinds.Datas(env, l)
	if fault != (api.Fault{}) {
		t.Fatalf("%v: %v", l, fault)
	}
	return result
}

// nested returns a kind of the given depth.
func nested(depth int) api.Kind {
	if depth == 1 {
		return api.Kind{}
	}
	return api.Kind{Args: []api.Kind{nested(depth - 1)}}
}

// wide returns a kind of the given size.
func wide(size int) api.Kind { return api.Kind{Args: make([]api.Kind, size-1)} }

func variable(name string) api.Type { return api.Type{Op: api.TVar, Name: name} }

func con(name string) api.Type { return api.Type{Op: api.TCon, Name: name} }

func forall(name string, body api.Type) api.Type {
	return api.Type{Op: api.TForall, Name: name, Kids: []api.Type{body}}
}
