// Package patterns helps the layers that examine patterns: it finds the data types of constructors, and simplifies patterns. It belongs to no layer.
package patterns

import (
	"slices"

	"lazyc/api"
	"lazyc/base"
)

// Table finds constructors by their names. It keeps the data types that it is given, without changing them.
type Table struct {
	datas    []api.Data
	builtins []api.Data // empty until they are needed
	found    map[string]Entry
}

// Entry is a constructor with its data type; both are nil if there is no such constructor.
type Entry struct {
	Data *api.Data
	Con  *api.Con
}

// NewTable returns a table of the constructors of data types, and the built-in ones.
func NewTable(datas []api.Data) *Table { return &Table{datas: datas, found: map[string]Entry{}} }

// Find returns a constructor of the first data type that has it.
func (t *Table) Find(name string) (entry Entry, ok bool) {
	entry, known := t.found[name]
	if !known {
		if entry = findIn(t.datas, name); entry.Con == nil {
			entry = findIn(t.builtinDatas(), name)
		}
		t.found[name] = entry
	}
	return entry, entry.Con != nil
}

// Owner returns the first data type of which a constructor has a label; no built-in one has labels.
func (t *Table) Owner(label string) (data *api.Data, ok bool) {
	for i := range t.datas {
		for _, con := range t.datas[i].Cons {
			if slices.Contains(con.Labels, label) {
				return &t.datas[i], true
			}
		}
	}
	return nil, false
}

func (t *Table) builtinDatas() []api.Data {
	if t.builtins == nil {
		t.builtins = base.Env().Datas
	}
	return t.builtins
}

func findIn(datas []api.Data, name string) Entry {
	for i := range datas {
		for j := range datas[i].Cons {
			if datas[i].Cons[j].Name == name {
				return Entry{&datas[i], &datas[i].Cons[j]}
			}
		}
	}
	return Entry{}
}

// Simple returns the outermost node of the simple form of a tuple, list or string; the patterns below it need not be simple. Any other pattern is returned as it is.
func Simple(p api.Pat) api.Pat {
	switch p.Op {
	case api.PTuple:
		return conPat(base.Tuple(len(p.Kids)), p.Kids...)
	case api.PList:
		if n := len(p.Kids); n > 0 {
			return conPat(":", p.Kids[0], api.Pat{Op: api.PList, Kids: p.Kids[1:n:n]})
		}
		return conPat("[]")
	case api.PString:
		if p.Text != "" {
			return conPat(":", api.Pat{Op: api.PChar, N: int(p.Text[0])}, api.Pat{Op: api.PString, Text: p.Text[1:]})
		}
		return conPat("[]")
	}
	return p
}

// OfRecord returns the outermost node of the simple form of a PRecord.
func OfRecord(p api.Pat, con *api.Con) api.Pat {
	labelled := map[string]api.Pat{}
	for i, label := range p.Names {
		labelled[label] = p.Kids[i]
	}
	kids := make([]api.Pat, len(con.Fields))
	for i := range kids {
		kids[i].Op = api.PWild
		if i < len(con.Labels) {
			kid, ok := labelled[con.Labels[i]]
			if ok {
				kids[i] = kid
			}
			// Of fields with equal labels the first one has the pattern.
			delete(labelled, con.Labels[i])
		}
	}
	return conPat(p.Name, kids...)
}

func conPat(name string, kids ...api.Pat) api.Pat {
	return api.Pat{Op: api.PCon, Name: name, Kids: kids}
}
