package graph

import (
	"math/rand"
	"reflect"
	"runtime/debug"
	"slices"
	"testing"

	"lazyc/api"
)

// random returns a graph with about as many edges a node as given; in an acyclic one they lead to nodes before it in a random order.
func random(r *rand.Rand, count int, density float64, acyclic bool) api.Graph {
	g := api.Graph{Edges: make([][]int, count)}
	order := r.Perm(count)
	for range int(float64(count) * density) {
		from, to := r.Intn(count), r.Intn(count)
		if acyclic && order[from] <= order[to] {
			continue
		}
		g.Edges[from] = append(g.Edges[from], to)
	}
	return g
}

// longest returns for each two nodes the number of edges of the longest walk between them that has at most as many edges as there are nodes; -1 if there is no walk of at least one edge.
func longest(g api.Graph) [][]int {
	count := len(g.Edges)
	best := make([][]int, count)
	walks := make([][]bool, count)
	for i := range best {
		best[i] = slices.Repeat([]int{-1}, count)
		walks[i] = make([]bool, count)
		walks[i][i] = true
	}
	for length := 1; length <= count; length++ {
		for i := range count {
			after := make([]bool, count)
			for middle, there := range walks[i] {
				for _, to := range g.Edges[middle] {
					if there {
						after[to] = true
						best[i][to] = length
					}
				}
			}
			walks[i] = after
		}
	}
	return best
}

// reaches reports what a path of any number of edges joins.
func reaches(walks [][]int, i, j int) bool { return i == j || walks[i][j] >= 0 }

// defined returns the components as the document defines them and their order.
func defined(walks [][]int) [][]int {
	var list [][]int
	listed := make([]bool, len(walks))
	for len(slices.Concat(list...)) < len(walks) {
		for i := range walks {
			var own []int
			possible := !listed[i]
			for j := range walks {
				there, back := reaches(walks, i, j), reaches(walks, j, i)
				if there && back {
					own = append(own, j)
				}
				possible = possible && (!there || back || listed[j])
			}
			if possible {
				list = append(list, own)
				for _, j := range own {
					listed[j] = true
				}
				break
			}
		}
	}
	return list
}

// definedLevels returns the levels of an acyclic graph.
func definedLevels(walks [][]int) [][]int {
	var levels [][]int
	for i := range walks {
		level := max(0, slices.Max(walks[i]))
		for len(levels) <= level {
			levels = append(levels, nil)
		}
		levels[level] = append(levels[level], i)
	}
	return levels
}

// P9.1 to P9.4: all results are the defined ones.
func TestAgainstDefinition(t *testing.T) {
	r := rand.New(rand.NewSource(1))
	cyclic, acyclic := 0, 0
	for range 6000 {
		g := random(r, 1+r.Intn(9), 2.5*r.Float64(), r.Intn(2) == 0)
		walks := longest(g)
		components := Components(g)
		if want := defined(walks); !reflect.DeepEqual(components, want) {
			t.Fatalf("%v: %v, want %v", g, components, want)
		}
		hasCycle := false
		for i := range walks {
			var reached []int
			for j := range walks {
				if reaches(walks, i, j) {
					reached = append(reached, j)
				}
			}
			if got := Reach(g, i); !slices.Equal(got, reached) {
				t.Fatalf("%v: from %d: %v, want %v", g, i, got, reached)
			}
			if got := Cyclic(g, i); got != (walks[i][i] >= 0) {
				t.Fatalf("%v: %d is cyclic: %v", g, i, got)
			}
			hasCycle = hasCycle || walks[i][i] >= 0
		}
		levels, code := Levels(g)
		switch {
		case hasCycle && code == api.ErrCycle && levels == nil:
			cyclic++
		case !hasCycle && code == api.OK && reflect.DeepEqual(levels, definedLevels(walks)):
			acyclic++
		default:
			t.Fatalf("%v: %v with %d", g, levels, code)
		}
	}
	if cyclic < 1000 || acyclic < 1000 {
		t.Errorf("%d graphs with a cycle, %d without", cyclic, acyclic)
	}
}

// P9.1 to P9.4 for graphs that are too large for the definition.
func TestLargeGraphs(t *testing.T) {
	r := rand.New(rand.NewSource(2))
	for _, density := range []float64{0.5, 1, 1.2, 2, 5} {
		checkComponents(t, random(r, 20000, density, false))
		g := random(r, 20000, density, true)
		checkComponents(t, g)
		checkLevels(t, g)
	}
}

// places returns the place of each node's list.
func places(t *testing.T, lists [][]int, count int) []int {
	t.Helper()
	all := slices.Repeat([]int{-1}, count)
	for place, list := range lists {
		for _, node := range list {
			if all[node] >= 0 {
				t.Fatalf("node %d is in two lists", node)
			}
			all[node] = place
		}
		if len(list) == 0 || !slices.IsSorted(list) {
			t.Fatalf("list %d is %v", place, list)
		}
	}
	if slices.Contains(all, -1) {
		t.Fatalf("a node is in no list")
	}
	return all
}

// checkComponents checks that every edge leads to the same or an earlier component, that a component that comes before one with a smaller node is used by it or by one in between, and that a component's nodes reach each other.
func checkComponents(t *testing.T, g api.Graph) {
	t.Helper()
	components := Components(g)
	place := places(t, components, len(g.Edges))
	last := slices.Repeat([]int{-1}, len(components)) // the last other component that one uses
	inner := api.Graph{Edges: make([][]int, len(g.Edges))}
	for from, nexts := range g.Edges {
		for _, to := range nexts {
			switch {
			case place[to] > place[from]:
				t.Fatalf("an edge from %d leads to %d, which comes later", from, to)
			case place[to] < place[from]:
				last[place[from]] = max(last[place[from]], place[to])
			default:
				inner.Edges[to] = append(inner.Edges[to], from)
			}
		}
	}
	for at, component := range components {
		if at > 0 && component[0] < components[at-1][0] && last[at] != at-1 {
			t.Fatalf("%d could have come before %d", component[0], components[at-1][0])
		}
		checkTogether(t, g, inner, place, component)
	}
}

// checkTogether checks that the first node of a component reaches all others within it, and is reached by them.
func checkTogether(t *testing.T, g, inner api.Graph, place, component []int) {
	t.Helper()
	for _, edges := range [][][]int{g.Edges, inner.Edges} {
		seen := map[int]bool{component[0]: true}
		work := []int{component[0]}
		for len(work) > 0 {
			node := work[0]
			work = work[1:]
			for _, next := range edges[node] {
				if place[next] == place[node] && !seen[next] {
					seen[next] = true
					work = append(work, next)
				}
			}
		}
		if len(seen) != len(component) {
			t.Fatalf("the nodes of %v cannot reach each other", component)
		}
	}
}

// checkLevels checks that every edge leads to a lower level, and one of them to the level below.
func checkLevels(t *testing.T, g api.Graph) {
	t.Helper()
	levels, code := Levels(g)
	if code != api.OK {
		t.Fatalf("no levels: %d", code)
	}
	level := places(t, levels, len(g.Edges))
	for from, nexts := range g.Edges {
		highest := -1
		for _, to := range nexts {
			highest = max(highest, level[to])
		}
		if highest != level[from]-1 {
			t.Fatalf("%d has the level %d, and its successors have at most %d", from, level[from], highest)
		}
	}
}

// The nesting of calls must not depend on the length of paths.
func TestLongPaths(t *testing.T) {
	defer debug.SetMaxStack(debug.SetMaxStack(1 << 20))
	const count = 300000
	var path, pairs, ring api.Graph
	for i := range count {
		path.Edges = append(path.Edges, []int{min(i+1, count-1)})
		pairs.Edges = append(pairs.Edges, []int{min(i+1, count-1), max(i-1, 0)})
		ring.Edges = append(ring.Edges, []int{(i + 1) % count, i})
	}
	path.Edges[count-1] = nil
	if got := Components(path); len(got) != count || got[0][0] != count-1 || got[count-1][0] != 0 {
		t.Errorf("a path has %d components", len(got))
	}
	if got, code := Levels(path); code != api.OK || len(got) != count || got[0][0] != count-1 {
		t.Errorf("a path has %d levels", len(got))
	}
	for _, g := range []api.Graph{pairs, ring} {
		if got := Components(g); len(got) != 1 || len(got[0]) != count {
			t.Errorf("a cycle has %d components", len(got))
		}
		if len(Reach(g, count/2)) != count || !Cyclic(g, count/2) {
			t.Errorf("a node of a cycle reaches %d nodes", len(Reach(g, count/2)))
		}
	}
	if Cyclic(path, 0) || len(Reach(path, 5)) != count-5 {
		t.Errorf("a node of a path reaches %d nodes", len(Reach(path, 5)))
	}
}
