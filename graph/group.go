package graph

import "lazyc/api"

// Group groups keyed items: each item comes after those that it uses.
func Group[K comparable](items []K, uses func(K) []K) (groups [][]K) {
	// uses may panic, and so does a key that is an interface with a value that cannot be compared.
	defer func() {
		if recover() != nil {
			groups = nil
		}
	}()
	different, places := distinct(items)
	g := api.Graph{Edges: make([][]int, len(different))}
	if uses != nil {
		for node, item := range different {
			g.Edges[node] = placesOf(places, uses(item))
		}
	}
	for _, component := range Components(g) {
		var group []K
		for _, node := range component {
			group = append(group, different[node])
		}
		groups = append(groups, group)
	}
	return groups
}

// distinct returns the different items in the order of their first occurrence, and their places in it.
func distinct[K comparable](items []K) (different []K, places map[K]int) {
	places = map[K]int{}
	for _, item := range items {
		if _, ok := places[item]; !ok {
			places[item] = len(different)
			different = append(different, item)
		}
	}
	return different, places
}

// placesOf looks up the items, and leaves out those that have no place.
func placesOf[K comparable](places map[K]int, items []K) []int {
	var list []int
	for _, item := range items {
		if place, ok := placeOf(places, item); ok {
			list = append(list, place)
		}
	}
	return list
}

// placeOf looks up an item. One that cannot be compared has no place, but the lookup would panic.
func placeOf[K comparable](places map[K]int, item K) (place int, ok bool) {
	defer func() {
		if recover() != nil {
			place, ok = 0, false
		}
	}()
	place, ok = places[item]
	return place, ok
}
