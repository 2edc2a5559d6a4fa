package planar

import (
	"iter"
	"math/bits"
	"slices"

	"olivette/api"
)

// set is a set of vertices, of which there are at most MaxVertices.
type set uint32

func only(v int) set {
	return 1 << v
}

func setOf(list []int) set {
	var s set
	for _, v := range list {
		s |= only(v)
	}
	return s
}

func (s set) has(v int) bool {
	return s&only(v) != 0
}

func (s set) size() int {
	return bits.OnesCount32(uint32(s))
}

// least expects a set that is not empty.
func (s set) least() int {
	return bits.TrailingZeros32(uint32(s))
}

// all visits the vertices in ascending order.
func (s set) all() iter.Seq[int] {
	return func(yield func(int) bool) {
		for rest := s; rest != 0; rest &= rest - 1 {
			if !yield(rest.least()) {
				return
			}
		}
	}
}

// graph has the set of its neighbors for each vertex.
type graph []set

// graphOf returns the graph, or false if n and edges are none.
func graphOf(n int, edges [][2]int) (graph, bool) {
	if n < 0 || n > api.MaxVertices || len(edges) > api.MaxEdges {
		return nil, false
	}
	g := make(graph, n)
	for _, e := range edges {
		u, v := e[0], e[1]
		if !g.hasVertex(u) || !g.hasVertex(v) || u == v || g[u].has(v) {
			return nil, false
		}
		g.join(u, v)
	}
	return g, true
}

func (g graph) hasVertex(v int) bool {
	return v >= 0 && v < len(g)
}

func (g graph) vertices() set {
	return only(len(g)) - 1
}

func (g graph) join(u, v int) {
	g[u] |= only(v)
	g[v] |= only(u)
}

func (g graph) separate(u, v int) {
	g[u] &^= only(v)
	g[v] &^= only(u)
}

// groups visits the sets of those vertices of inside that hang together by edges within it.
func (g graph) groups(inside set) iter.Seq[set] {
	return func(yield func(set) bool) {
		for rest := inside; rest != 0; {
			group := g.group(rest.least(), rest)
			rest &^= group
			if !yield(group) {
				return
			}
		}
	}
}

// group returns the vertices that hang together with v by edges within inside.
func (g graph) group(v int, inside set) set {
	group, fresh := only(v), only(v)
	for fresh != 0 {
		var near set
		for u := range fresh.all() {
			near |= g[u]
		}
		fresh = near & inside &^ group
		group |= fresh
	}
	return group
}

// path returns a shortest path to one of ends, which from is not, over vertices of inside only, or nil if there is none.
func (g graph) path(from int, inside, ends set) []int {
	before := make([]int, len(g))
	queue := []int{from}
	open := (inside | ends) &^ only(from)
search:
	for i := 0; i < len(queue); i++ {
		at := queue[i]
		for to := range (g[at] & open).all() {
			before[to] = at
			queue = append(queue, to)
			open &^= only(to)
			if ends.has(to) {
				break search
			}
		}
	}
	at := queue[len(queue)-1]
	if !ends.has(at) {
		return nil
	}
	path := []int{at}
	for at != from {
		at = before[at]
		path = append(path, at)
	}
	slices.Reverse(path)
	return path
}
