package planar

import (
	"slices"

	"olivette/sets"
)

// obstacleIn returns an obstacle in g, which is not planar: what is left of its edges when all that can be spared are removed.
func obstacleIn(g graph, edges [][2]int) []int {
	left := slices.Clone(g)
	var obstacle []int
	for i, e := range edges {
		left.separate(e[0], e[1])
		if _, ok := planeRotation(left); ok {
			left.join(e[0], e[1])
			obstacle = append(obstacle, i)
		}
	}
	return obstacle
}

// isObstacle reports whether the positions are those of an obstacle.
func isObstacle(n int, edges [][2]int, positions []int) bool {
	g := make(graph, n)
	last := -1
	for _, i := range positions {
		if i <= last || i >= len(edges) {
			return false
		}
		g.join(edges[i][0], edges[i][1])
		last = i
	}
	return shorten(g) && (isFive(g) || isThreeByThree(g))
}

// shorten replaces each vertex that has two edges by one edge. It returns false if two vertices are to be joined twice: these edges stay two, or end as a circle of their own.
func shorten(g graph) bool {
	for v := range g {
		if g[v].Size() != 2 {
			continue
		}
		u := g[v].Least()
		w := (g[v] &^ sets.Only(u)).Least()
		if g[u].Has(w) {
			return false
		}
		g.separate(v, u)
		g.separate(v, w)
		g.join(u, w)
	}
	return true
}

// joined returns the vertices that have an edge.
func (g graph) joined() sets.Set {
	var s sets.Set
	for v, near := range g {
		if near != 0 {
			s |= sets.Only(v)
		}
	}
	return s
}

// isFive reports whether the edges join each of five vertices to each other.
func isFive(g graph) bool {
	five := g.joined()
	for v := range five.All() {
		if g[v] != five&^sets.Only(v) {
			return false
		}
	}
	return five.Size() == 5
}

// isThreeByThree reports whether the edges join each of three vertices to each of three others.
func isThreeByThree(g graph) bool {
	six := g.joined()
	if six.Size() != 6 {
		return false
	}
	side := g[six.Least()]
	for v := range six.All() {
		want := side
		if side.Has(v) {
			want = six &^ side
		}
		if g[v] != want {
			return false
		}
	}
	return side.Size() == 3
}
