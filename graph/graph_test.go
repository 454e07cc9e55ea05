package graph

import (
	"fmt"
	"reflect"
	"slices"
	"strings"
	"testing"

	"lazyc/api"
)

// read returns a graph from the successors of its nodes: "1 2 | 2 | ".
func read(text string) api.Graph {
	var g api.Graph
	if text == "" {
		return g
	}
	for _, part := range strings.Split(text, "|") {
		var nexts []int
		for _, word := range strings.Fields(part) {
			var next int
			if _, err := fmt.Sscan(word, &next); err != nil {
				panic(err)
			}
			nexts = append(nexts, next)
		}
		g.Edges = append(g.Edges, nexts)
	}
	return g
}

// lists writes a list of lists as "0 1 | 2".
func lists[T any](all [][]T) string {
	var parts []string
	for _, list := range all {
		parts = append(parts, strings.Trim(fmt.Sprint(list), "[]"))
	}
	return strings.Join(parts, " | ")
}

// invalid are graphs with a successor that is no node.
func invalid() []api.Graph {
	return []api.Graph{read("1"), read("-1"), read("0 | 1 2"), read("1 | 0 | 0 -1 1"), read("|||4"), read("9223372036854775807"), read("-9223372036854775808")}
}

// P9.1, P9.2: the components and their order.
func TestComponents(t *testing.T) {
	for _, c := range []struct{ graph, want string }{
		{"", ""},
		{" ", "0"},
		{"0", "0"},
		{"1 | 0 | 0", "0 1 | 2"},
		{"1 2 | 2 | ", "2 | 1 | 0"},
		{" | | ", "0 | 1 | 2"},
		{"2 | | ", "1 | 2 | 0"},
		{"1 | 2 | 0", "0 1 2"},
		{"3 | | 1 | 0", "0 3 | 1 | 2"},
		{"4 | 3 | | 1 | 2", "1 3 | 2 | 4 | 0"},
		{"5 5 5 | 0 0 | 0 2 2 | 4 4 | 3 | ", "3 4 | 5 | 0 | 1 | 2"},
		{"1 | 2 | 1 3 | 4 | 3 5 | 5", "5 | 3 4 | 1 2 | 0"},
		{"3 1 | 4 0 | 5 | 0 | | 2", "2 5 | 4 | 0 1 3"},
		{"6 | 5 | 4 | | 3 | 3 | 3", "3 | 4 | 2 | 5 | 1 | 6 | 0"},
	} {
		if got := lists(Components(read(c.graph))); got != c.want {
			t.Errorf("%q: %s, want %s", c.graph, got, c.want)
		}
	}
	for _, g := range invalid() {
		if got := Components(g); got != nil {
			t.Errorf("%v: %v", g, got)
		}
	}
}

// P9.3: what can be reached, and what can reach itself.
func TestReach(t *testing.T) {
	for _, c := range []struct {
		graph string
		node  int
		want  string
	}{
		{"1 | 0 | 0", 0, "0 1"},
		{"1 | 0 | 0", 1, "0 1"},
		{"1 | 0 | 0", 2, "0 1 2"},
		{"1 2 | 2 | ", 0, "0 1 2"},
		{"1 2 | 2 | ", 1, "1 2"},
		{"1 2 | 2 | ", 2, "2"},
		{"3 3 | 1 0 | 2 | ", 0, "0 3"},
		{"3 3 | 1 0 | 2 | ", 1, "0 1 3"},
		{"3 3 | 1 0 | 2 | ", 2, "2"},
		{"1 | 0 | 0", 3, ""},
		{"1 | 0 | 0", -1, ""},
		{"", 0, ""},
	} {
		if got := strings.Trim(fmt.Sprint(Reach(read(c.graph), c.node)), "[]"); got != c.want {
			t.Errorf("%q, %d: %s, want %s", c.graph, c.node, got, c.want)
		}
	}
	for _, g := range invalid() {
		if got := Reach(g, 0); got != nil {
			t.Errorf("%v: %v", g, got)
		}
	}
}

// P9.3: a node reaches itself by an edge if it is among what its successors reach.
func TestCyclic(t *testing.T) {
	for _, c := range []struct {
		graph, want string
	}{
		{"1 | 0 | 0", "[true true false]"},
		{"1 2 | 2 | ", "[false false false]"},
		{"0 | 0 | 1 3 | 3 2 | 2", "[true false true true false]"},
		{"1 | 2 | 3 | 1 | ", "[false true true true false]"},
	} {
		g := read(c.graph)
		var got []bool
		for node := range g.Edges {
			got = append(got, Cyclic(g, node))
		}
		if fmt.Sprint(got) != c.want || Cyclic(g, -1) || Cyclic(g, len(g.Edges)) {
			t.Errorf("%q: %v, want %s", c.graph, got, c.want)
		}
	}
	if Cyclic(read(""), 0) || Cyclic(read("0 1"), 0) || Cyclic(read("0 | 1 -1"), 0) {
		t.Errorf("a graph that is not valid has a cycle")
	}
}

// P9.4: levels by the longest paths, and the graphs that have none.
func TestLevels(t *testing.T) {
	for _, c := range []struct {
		graph, want string
		code        api.Errno
	}{
		{"", "", api.OK},
		{" ", "0", api.OK},
		{"1 2 | 2 | ", "2 | 1 | 0", api.OK},
		{" | | 0 0 1", "0 1 | 2", api.OK},
		{"1 | 2 | 3 | | 3 0 | 4 3", "3 | 2 | 1 | 0 | 4 | 5", api.OK},
		{"3 | 3 | 0 3 | ", "3 | 0 1 | 2", api.OK},
		{"1 | 0 | 0", "", api.ErrCycle},
		{"0", "", api.ErrCycle},
		{" | | 2", "", api.ErrCycle},
		{"1 | 2 | 3 | 1", "", api.ErrCycle},
	} {
		got, code := Levels(read(c.graph))
		if lists(got) != c.want || code != c.code {
			t.Errorf("%q: %s with %d, want %s with %d", c.graph, lists(got), code, c.want, c.code)
		}
	}
	for _, g := range append(invalid(), read("0 2 | 0")) {
		if got, code := Levels(g); got != nil || code != api.ErrArg {
			t.Errorf("%v: %v with %d", g, got, code)
		}
	}
}

// A result is new memory, and the argument is left as it is.
func TestMemory(t *testing.T) {
	g := read("1 | 0 | 0 5 | 4 | 3 | ")
	Components(g)
	Reach(g, 2)
	Cyclic(g, 2)
	Levels(g)
	if want := read("1 | 0 | 0 5 | 4 | 3 | "); !reflect.DeepEqual(g, want) {
		t.Errorf("the graph became %v", g)
	}
	components := Components(g)
	levels, _ := Levels(read(" | 0 | | 1 | 3"))
	for i := range components {
		components[i] = append(components[i], -1)
	}
	for i := range levels {
		levels[i] = append(levels[i], -1)
	}
	if lists(components) != "0 1 -1 | 3 4 -1 | 5 -1 | 2 -1" || lists(levels) != "0 2 -1 | 1 -1 | 3 -1 | 4 -1" {
		t.Errorf("lists share memory: %v, %v", components, levels)
	}
	groups := Group([]int{1, 2, 3}, nil)
	for i := range groups {
		groups[i] = append(groups[i], slices.Repeat([]int{0}, 3)...)
	}
	if lists(groups) != "1 0 0 0 | 2 0 0 0 | 3 0 0 0" {
		t.Errorf("groups share memory: %v", groups)
	}
}
