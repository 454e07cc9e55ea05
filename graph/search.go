package graph

import "lazyc/api"

// maxCalls bounds the nesting of calls of a search: a path may have more nodes than the stack has room for calls.
const maxCalls = 1000

// search is the state of a depth-first search for components, by Tarjan's algorithm.
type search struct {
	edges  [][]int
	place  []int // by node: its place in the order in which nodes are found, from 1; 0 if it is not found yet
	lowest []int // by node: the lowest place of a node of its component that is known
	looked []int // by node: how many of its edges have been followed to their end
	number []int // by node: the number of its component, from 1; 0 if that is not known yet
	path   []int // the nodes with edges that are being followed: each one has an edge to the next
	open   []int // the nodes that are found but have no number, by place
	found  int
	last   int // the number of the last component
}

// numbers returns for each node the number of its component, from 1, or 0 if no path leads to it from one of the starts.
func numbers(g api.Graph, starts ...int) []int {
	s := newSearch(g.Edges)
	var visit func(node, calls int)
	visit = func(node, calls int) {
		for s.looked[node] < len(s.edges[node]) {
			next := s.edges[node][s.looked[node]]
			if s.place[next] == 0 {
				s.enter(next)
				if calls < maxCalls {
					visit(next, calls+1)
				}
				// If next is not finished, neither is this node; both are visited again, from the end of the path.
				if s.end() != node {
					return
				}
			}
			s.look(node, next)
		}
		s.leave(node)
	}
	for _, start := range starts {
		if s.place[start] == 0 {
			s.enter(start)
		}
		for len(s.path) > 0 {
			visit(s.end(), 0)
		}
	}
	return s.number
}

func newSearch(edges [][]int) *search {
	count := len(edges)
	return &search{
		edges:  edges,
		place:  make([]int, count),
		lowest: make([]int, count),
		looked: make([]int, count),
		number: make([]int, count),
	}
}

func (s *search) enter(node int) {
	s.found++
	s.place[node] = s.found
	s.lowest[node] = s.found
	s.path = append(s.path, node)
	s.open = append(s.open, node)
}

// end returns the last node of the path.
func (s *search) end() int { return s.path[len(s.path)-1] }

// look takes into account what is known of the end of an edge: if that is open, it can reach the node.
func (s *search) look(node, next int) {
	if s.number[next] == 0 {
		s.lowest[node] = min(s.lowest[node], s.lowest[next])
	}
	s.looked[node]++
}

// leave removes a node from the path. If no node of its component was found before it, the component consists of it and of the open nodes after it.
func (s *search) leave(node int) {
	s.path = s.path[:len(s.path)-1]
	if s.lowest[node] < s.place[node] {
		return
	}
	s.last++
	for s.number[node] == 0 {
		end := len(s.open) - 1
		s.number[s.open[end]] = s.last
		s.open = s.open[:end]
	}
}
