package cover

import (
	"lazyc/api"
	"lazyc/patterns"
	"lazyc/trees"
)

// pattern is the simple form of a pattern that examines something; nil stands for every open pattern.
type pattern struct {
	head head
	data *api.Data // the data type of the constructor, if there is one
	kids vector
}

// head is what a pattern examines: a constructor, an integer or a character.
type head struct {
	op   api.PatOp
	name string
	n    int
}

// family is what the heads that values of one type can have are the members of.
type family struct {
	op   api.PatOp
	data *api.Data
}

func (p *pattern) family() family { return family{p.head.op, p.data} }

// families knows the constructors of the data types.
type families struct {
	table *patterns.Table
}

// simple returns the simple form of a pattern without faults.
func (f families) simple(p api.Pat) *pattern {
	for p.Op == api.PAs {
		p = p.Kids[0]
	}
	switch p = patterns.Simple(p); p.Op {
	case api.PVar, api.PWild, api.PLazy:
		return nil
	case api.PInt, api.PChar:
		return &pattern{head: head{op: p.Op, n: p.N}}
	}
	entry, _ := f.table.Find(p.Name)
	if p.Op == api.PRecord {
		p = patterns.OfRecord(p, entry.Con)
	}
	return &pattern{head{op: p.Op, name: p.Name}, entry.Data, trees.Map(p.Kids, f.simple)}
}

// parts returns the number of fields of a head.
func (f families) parts(h head) int {
	if h.op != api.PCon {
		return 0
	}
	entry, _ := f.table.Find(h.name)
	return len(entry.Con.Fields)
}

// vector has a pattern for each column.
type vector []*pattern

// extended returns a vector with further patterns, in memory of its own.
func (v vector) extended(more ...*pattern) vector { return append(v[:len(v):len(v)], more...) }

// without returns a vector without a column.
func (v vector) without(i int) vector {
	if i == 0 {
		return v[1:]
	}
	return v[:i].extended(v[i+1:]...)
}
