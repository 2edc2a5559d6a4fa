package planar

import (
	"iter"
	"slices"

	"olivette/api"
	"olivette/sets"
)

// arc is an edge with a direction.
type arc struct {
	from, to int
}

// Faces returns the faces of the rotation, each as the list of the vertices from which its directed edges lead.
func Faces(n int, edges [][2]int, rotation [][]int) ([][]int, api.Errno) {
	if !isRotationOf(n, edges, rotation) {
		return nil, api.ErrArg
	}
	var list [][]int
	for face := range faces(rotation) {
		circle := make([]int, len(face))
		for i, a := range face {
			circle[i] = a.from
		}
		list = append(list, circle)
	}
	return list, api.OK
}

// Dual returns the number of faces, and for each edge the positions of the faces on its two sides, that of its given direction first.
func Dual(n int, edges [][2]int, rotation [][]int) (int, [][2]int, api.Errno) {
	if !isRotationOf(n, edges, rotation) {
		return 0, nil, api.ErrArg
	}
	number := 0
	faceOf := map[arc]int{}
	for face := range faces(rotation) {
		for _, a := range face {
			faceOf[a] = number
		}
		number++
	}
	sides := make([][2]int, len(edges))
	for i, e := range edges {
		sides[i] = [2]int{faceOf[arc{e[0], e[1]}], faceOf[arc{e[1], e[0]}]}
	}
	return number, sides, api.OK
}

// Mirror returns the rotation that goes round in the other direction, each list from the same vertex on.
func Mirror(n int, edges [][2]int, rotation [][]int) ([][]int, api.Errno) {
	if !isRotationOf(n, edges, rotation) {
		return nil, api.ErrArg
	}
	mirror := make([][]int, n)
	for v, list := range rotation {
		mirror[v] = slices.Clone(list)
		if len(list) > 0 {
			slices.Reverse(mirror[v][1:])
		}
	}
	return mirror, api.OK
}

// isRotationOf reports whether n and edges are a graph, and the rotation is one of it.
func isRotationOf(n int, edges [][2]int, rotation [][]int) bool {
	g, ok := graphOf(n, edges)
	return ok && isRotation(g, rotation)
}

// isRotation reports whether the list of each vertex has all of its neighbors, each once.
func isRotation(g graph, rotation [][]int) bool {
	if len(rotation) != len(g) {
		return false
	}
	for v, list := range rotation {
		// A list of that length that has no vertex twice has them all.
		if len(list) != g[v].Size() {
			return false
		}
		left := g[v]
		for _, u := range list {
			if !left.Has(u) {
				return false
			}
			left &^= sets.Only(u)
		}
	}
	return true
}

// isPlane decides by the numbers of vertices, edges and faces of all that hangs together.
func isPlane(g graph, rotation [][]int) bool {
	facesFrom := make([]int, len(g))
	for face := range faces(rotation) {
		facesFrom[face[0].from]++
	}
	for group := range g.groups(g.vertices()) {
		ends, count := 0, 0
		for v := range group.All() {
			ends += g[v].Size()
			count += facesFrom[v]
		}
		if group.Size() > 1 && group.Size()-ends/2+count != 2 {
			return false
		}
	}
	return true
}

// faces visits the faces of a rotation: each begins with its first directed edge, and they come in the order of these.
func faces(rotation [][]int) iter.Seq[[]arc] {
	return func(yield func([]arc) bool) {
		next := nextOnes(rotation)
		seen := map[arc]bool{}
		for _, first := range arcs(rotation) {
			if seen[first] {
				continue
			}
			face := []arc{first}
			for a := next[first]; a != first; a = next[a] {
				face = append(face, a)
			}
			for _, a := range face {
				seen[a] = true
			}
			if !yield(face) {
				return
			}
		}
	}
}

// nextOnes returns for each directed edge the one that follows it in its face.
func nextOnes(rotation [][]int) map[arc]arc {
	next := map[arc]arc{}
	for v, list := range rotation {
		for i, u := range list {
			next[arc{u, v}] = arc{v, list[(i+1)%len(list)]}
		}
	}
	return next
}

// arcs returns the directed edges of a rotation in ascending order.
func arcs(rotation [][]int) []arc {
	var list []arc
	for u, neighbors := range rotation {
		for v := range sets.Of(neighbors).All() {
			list = append(list, arc{u, v})
		}
	}
	return list
}
