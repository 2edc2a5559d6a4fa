package tree

import (
	"olivette/api"
	"olivette/sets"
)

// graph has the set of its neighbors for each vertex.
type graph []sets.Set

// graphOf returns the graph, or false if n and edges are none, or it is too large.
func graphOf(n int, edges [][2]int) (graph, bool) {
	if n < 0 || n > api.MaxSmall {
		return nil, false
	}
	return sets.Neighbors(n, edges)
}

func (g graph) vertices() sets.Set {
	return sets.Below(len(g))
}

// around returns the neighbors of v when it is removed after the removed ones: those to which paths over removed vertices lead, as each of these has joined its neighbors.
func (g graph) around(v int, removed sets.Set) sets.Set {
	group := sets.Group(g, v, removed)
	return sets.Near(g, group) &^ group
}

// clique returns the greatest set of neighbors of one another that comes first: sets are tried in lexicographic order.
func (g graph) clique() sets.Set {
	var best sets.Set
	var extend func(s, candidates sets.Set)
	extend = func(s, candidates sets.Set) {
		if s.Size() > best.Size() {
			best = s
		}
		for v := range candidates.All() {
			candidates &^= sets.Only(v)
			extend(s|sets.Only(v), candidates&g[v])
		}
	}
	extend(0, g.vertices())
	return best
}
