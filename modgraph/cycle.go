package modgraph

import (
	"slices"

	"lazyc/api"
	"lazyc/graph"
)

// smallestCycle returns the nodes of a cycle with the fewest nodes, of several ones the smallest sequence.
func smallestCycle(g api.Graph) []int {
	var smallest []int
	for start := range g.Edges {
		if !graph.Cyclic(g, start) {
			continue
		}
		// A later start makes a greater sequence, so that only a shorter one is better.
		if cycle := cycleFrom(g, start); smallest == nil || len(cycle) < len(smallest) {
			smallest = cycle
		}
	}
	return smallest
}

// cycleFrom returns the smallest of the shortest cycles that begin with a node, which is on one.
func cycleFrom(g api.Graph, start int) []int {
	away := distances(g, start)
	cycle := []int{start}
	for {
		// The edges are ascending: of several successors at the same distance the smallest one is taken.
		next := slices.MinFunc(g.Edges[cycle[len(cycle)-1]], func(a, b int) int { return away[a] - away[b] })
		if next == start {
			return cycle
		}
		cycle = append(cycle, next)
	}
}

// distances returns for each node how many edges a shortest path from it to the target has; if there is none, the number of nodes, which is more than any has.
func distances(g api.Graph, target int) []int {
	count := len(g.Edges)
	away := slices.Repeat([]int{count}, count)
	away[target] = 0
	for range count {
		for node, nexts := range g.Edges {
			for _, next := range nexts {
				away[node] = min(away[node], away[next]+1)
			}
		}
	}
	return away
}

// reversed returns the graph with the edges in the other direction.
func reversed(g api.Graph) api.Graph {
	edges := make([][]int, len(g.Edges))
	for node, nexts := range g.Edges {
		for _, next := range nexts {
			edges[next] = append(edges[next], node)
		}
	}
	return api.Graph{Edges: edges}
}
