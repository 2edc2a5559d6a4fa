package planar

import (
	"iter"
	"slices"

	"olivette/api"
	"olivette/sets"
)

// graph has the set of its neighbors for each vertex.
type graph []sets.Set

// graphOf returns the graph, or false if n and edges are none.
func graphOf(n int, edges [][2]int) (graph, bool) {
	if n < 0 || n > api.MaxVertices || len(edges) > api.MaxEdges {
		return nil, false
	}
	return sets.Neighbors(n, edges)
}

func (g graph) vertices() sets.Set {
	return sets.Below(len(g))
}

func (g graph) join(u, v int) {
	g[u] |= sets.Only(v)
	g[v] |= sets.Only(u)
}

func (g graph) separate(u, v int) {
	g[u] &^= sets.Only(v)
	g[v] &^= sets.Only(u)
}

// groups visits the sets of those vertices of inside that hang together by edges within it.
func (g graph) groups(inside sets.Set) iter.Seq[sets.Set] {
	return func(yield func(sets.Set) bool) {
		for rest := inside; rest != 0; {
			group := sets.Group(g, rest.Least(), rest)
			rest &^= group
			if !yield(group) {
				return
			}
		}
	}
}

// path returns a shortest path to one of ends, which from is not, over vertices of inside only, or nil if there is none.
func (g graph) path(from int, inside, ends sets.Set) []int {
	before := make([]int, len(g))
	queue := []int{from}
	open := (inside | ends) &^ sets.Only(from)
search:
	for i := 0; i < len(queue); i++ {
		at := queue[i]
		for to := range (g[at] & open).All() {
			before[to] = at
			queue = append(queue, to)
			open &^= sets.Only(to)
			if ends.Has(to) {
				break search
			}
		}
	}
	at := queue[len(queue)-1]
	if !ends.Has(at) {
		return nil
	}
	path := []int{at}
	for at != from {
		at = before[at]
		path = append(path, at)
	}
	slices.Reverse(path)
	return path
}
