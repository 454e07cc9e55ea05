package patterns

import (
	"reflect"
	"testing"

	"lazyc/api"
)

func pvar(name string) api.Pat { return api.Pat{Op: api.PVar, Name: name} }

var wild = api.Pat{Op: api.PWild}

// con returns a constructor with a number of fields.
func con(name string, fields int, labels ...string) api.Con {
	return api.Con{Name: name, Fields: make([]api.Type, fields), Labels: labels}
}

// The first data type that has a constructor counts, built-in ones come last.
func TestFind(t *testing.T) {
	datas := []api.Data{{Name: "T", Cons: []api.Con{con("A", 0), con("B", 1)}}, {Name: "U", Cons: []api.Con{con("B", 2), con(":", 3)}}}
	table := NewTable(datas)
	for range 2 {
		for name, want := range map[string]struct {
			data   string
			fields int
		}{"A": {"T", 0}, "B": {"T", 1}, ":": {"U", 3}, "[]": {"[]", 0}, "(,)": {"(,)", 2}, "True": {"Bool", 0}, "Failure": {"Exc", 1}} {
			entry, ok := table.Find(name)
			if !ok || entry.Data.Name != want.data || entry.Con.Name != name || len(entry.Con.Fields) != want.fields {
				t.Errorf("%s: %v %v", name, entry, ok)
			}
		}
		for _, name := range []string{"C", "", "Int", "T", "seq"} {
			if entry, ok := table.Find(name); ok || entry != (Entry{}) {
				t.Errorf("%s: %v", name, entry)
			}
		}
	}
	if entry, _ := table.Find("B"); entry.Data != &datas[0] {
		t.Error("the data type is another one")
	}
}

// Tuples, lists and strings become constructors.
func TestSimple(t *testing.T) {
	list := func(kids ...api.Pat) api.Pat { return api.Pat{Op: api.PList, Kids: kids} }
	text := func(s string) api.Pat { return api.Pat{Op: api.PString, Text: s} }
	x, y := pvar("x"), pvar("y")
	for what, test := range map[string][2]api.Pat{
		"unit":   {{Op: api.PTuple}, conPat("()")},
		"pair":   {{Op: api.PTuple, Kids: []api.Pat{x, y}}, conPat("(,)", x, y)},
		"empty":  {list(), conPat("[]")},
		"list":   {list(x, y), conPat(":", x, list(y))},
		"last":   {list(x), conPat(":", x, api.Pat{Op: api.PList, Kids: []api.Pat{}})},
		"string": {text("a\xffb"), conPat(":", api.Pat{Op: api.PChar, N: 'a'}, text("\xffb"))},
		"high":   {text("\xffb"), conPat(":", api.Pat{Op: api.PChar, N: 255}, text("b"))},
		"none":   {text(""), conPat("[]")},
		"other":  {x, x},
		"con":    {conPat("C", list(x)), conPat("C", list(x))},
	} {
		if got := Simple(test[0]); !reflect.DeepEqual(got, test[1]) {
			t.Errorf("%s: %v, want %v", what, got, test[1])
		}
	}
}

// A record has a pattern for each field: that of its label, but only for the first field with the label.
func TestOfRecord(t *testing.T) {
	record := api.Pat{Op: api.PRecord, Name: "C", Names: []string{"m", "l"}, Kids: []api.Pat{pvar("x"), pvar("y")}}
	for what, test := range map[string]struct {
		con  api.Con
		want api.Pat
	}{
		"in order":     {con("C", 2, "m", "l"), conPat("C", pvar("x"), pvar("y"))},
		"other order":  {con("C", 3, "l", "k", "m"), conPat("C", pvar("y"), wild, pvar("x"))},
		"twice":        {con("C", 3, "l", "l", "m"), conPat("C", pvar("y"), wild, pvar("x"))},
		"too many":     {con("C", 1, "l", "m"), conPat("C", pvar("y"))},
		"too few":      {con("C", 3, "l"), conPat("C", pvar("y"), wild, wild)},
		"no labels":    {con("C", 2), conPat("C", wild, wild)},
		"no such ones": {con("C", 1, "k"), conPat("C", wild)},
	} {
		if got := OfRecord(record, &test.con); !reflect.DeepEqual(got, test.want) {
			t.Errorf("%s: %v, want %v", what, got, test.want)
		}
	}
}

// The first data type with a label is its owner, whatever constructor has it.
func TestOwner(t *testing.T) {
	datas := []api.Data{{Name: "T", Cons: []api.Con{con("A", 0), con("B", 2, "x", "y")}}, {Name: "U", Cons: []api.Con{con("C", 1, "z"), con("D", 2, "y", "z")}}}
	table := NewTable(datas)
	for label, want := range map[string]*api.Data{"x": &datas[0], "y": &datas[0], "z": &datas[1], "A": nil, "": nil, ":": nil} {
		if got, ok := table.Owner(label); got != want || ok != (want != nil) {
			t.Errorf("%s: %v %v", label, got, ok)
		}
	}
}
