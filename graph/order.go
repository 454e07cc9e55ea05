package graph

import (
	"container/heap"

	"lazyc/api"
)

// ready is a heap of components that can come next, as places in a list that is ordered by the smallest nodes.
type ready []int

func (r ready) Len() int { return len(r) }

func (r ready) Less(i, j int) bool { return r[i] < r[j] }

func (r ready) Swap(i, j int) { r[i], r[j] = r[j], r[i] }

func (r *ready) Push(x any) { *r = append(*r, x.(int)) }

func (r *ready) Pop() any {
	end := len(*r) - 1
	x := (*r)[end]
	*r = (*r)[:end]
	return x
}

// ordered returns the components, which are given by the numbers of all nodes: of those whose edges lead to themselves and to listed ones only, the next one is the one with the smallest node.
func ordered(g api.Graph, number []int) [][]int {
	components, places := gather(number)
	users := make([][]int, len(components))
	waits := make([]int, len(components)) // by component: how many edges lead from it to others that are not listed
	for node, nexts := range g.Edges {
		from := places[node]
		for _, next := range nexts {
			if to := places[next]; to != from {
				users[to] = append(users[to], from)
				waits[from]++
			}
		}
	}
	var free ready
	for place, count := range waits {
		if count == 0 {
			heap.Push(&free, place)
		}
	}
	var list [][]int
	for free.Len() > 0 {
		place := heap.Pop(&free).(int)
		list = append(list, components[place])
		for _, user := range users[place] {
			waits[user]--
			if waits[user] == 0 {
				heap.Push(&free, user)
			}
		}
	}
	return list
}

// gather returns the components by their smallest nodes, and for each node the place of its component in this list.
func gather(number []int) (components [][]int, places []int) {
	places = make([]int, len(number))
	known := make([]int, len(number)+1) // by number: one more than the component's place; 0 if it is not listed yet
	for node, n := range number {
		if known[n] == 0 {
			components = append(components, nil)
			known[n] = len(components)
		}
		place := known[n] - 1
		places[node] = place
		components[place] = append(components[place], node)
	}
	return components, places
}
