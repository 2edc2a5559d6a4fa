package planar_test

import (
	"math"
	"math/rand"
	"slices"
	"testing"

	"olivette/api"
	"olivette/planar"
)

func equalLists(a, b [][]int) bool {
	return slices.EqualFunc(a, b, slices.Equal)
}

func cloneLists(lists [][]int) [][]int {
	var result [][]int
	for _, list := range lists {
		result = append(result, slices.Clone(list))
	}
	return result
}

// checkFaces compares with the definitions.
func checkFaces(t *testing.T, g instance, rotation [][]int) {
	t.Helper()
	edges, before := slices.Clone(g.edges), cloneLists(rotation)
	faces, e := planar.Faces(g.n, g.edges, rotation)
	if e != api.OK || !equalLists(faces, plainFaces(rotation)) {
		t.Errorf("Faces(%d, %v, %v) = %v, %d", g.n, g.edges, rotation, faces, e)
	}
	number, sides, e := planar.Dual(g.n, g.edges, rotation)
	if e != api.OK || number != len(faces) || len(sides) != len(g.edges) {
		t.Errorf("Dual(%d, %v, %v) = %d, %v, %d", g.n, g.edges, rotation, number, sides, e)
		return
	}
	for i, edge := range g.edges {
		if sides[i] != [2]int{faceWith(faces, edge[0], edge[1]), faceWith(faces, edge[1], edge[0])} {
			t.Errorf("Dual(%d, %v, %v) = %d, %v", g.n, g.edges, rotation, number, sides)
		}
	}
	mirror, e := planar.Mirror(g.n, g.edges, rotation)
	if e != api.OK || len(mirror) != g.n {
		t.Errorf("Mirror(%d, %v, %v) = %v, %d", g.n, g.edges, rotation, mirror, e)
		return
	}
	for v, list := range rotation {
		for i, u := range list {
			if len(mirror[v]) != len(list) || mirror[v][(len(list)-i)%len(list)] != u {
				t.Errorf("Mirror(%d, %v, %v) = %v", g.n, g.edges, rotation, mirror)
			}
		}
	}
	if !slices.Equal(g.edges, edges) || !equalLists(rotation, before) {
		t.Errorf("%v, %v became %v, %v", edges, before, g.edges, rotation)
	}
}

// faceWith returns the position of the face with that directed edge, -1 if there are several.
func faceWith(faces [][]int, from, to int) int {
	found := -1
	for k, face := range faces {
		for i, u := range face {
			if u == from && face[(i+1)%len(face)] == to {
				if found >= 0 {
					return -1
				}
				found = k
			}
		}
	}
	return found
}

// P3.2: all rotations of small graphs, plane or not.
func TestFacesSmall(t *testing.T) {
	for n := range 5 {
		all := complete(n)
		for bits := range 1 << len(all) {
			g := instance{n, subset(all, bits)}
			allRotations(g, func(rotation [][]int) { checkFaces(t, g, rotation) })
		}
	}
	for _, g := range []instance{{5, complete(5)}, {6, between(3, 3)}} {
		allRotations(g, func(rotation [][]int) { checkFaces(t, g, rotation) })
	}
}

// P3.2: rotations of graphs up to the limits, plane or not, with lists that begin anywhere.
func TestFacesLarge(t *testing.T) {
	random := rand.New(rand.NewSource(6))
	for range 300 {
		n := 1 + random.Intn(api.MaxVertices)
		all := mixed(random, instance{n, complete(n)}).edges
		g := instance{n, all[:random.Intn(min(len(all), api.MaxEdges)+1)]}
		checkFaces(t, g, someRotation(random, g))
	}
	for range 100 {
		n := 3 + random.Intn(api.MaxVertices-2)
		g := mixed(random, instance{n, triangles(random, n)})
		rotation := draw(t, g).Rotation
		if faces, _ := planar.Faces(g.n, g.edges, rotation); len(faces) != 2*n-4 {
			t.Errorf("%d vertices, %d faces", n, len(faces))
		}
		checkFaces(t, g, rotation)
	}
}

// P3.2: the examples, and other known faces.
func TestFacesKnown(t *testing.T) {
	known := []struct {
		graph         instance
		rotation      [][]int
		faces         [][]int
		sides         [][2]int
		mirrored      [][]int
		isPlane       bool
		mirroredFaces [][]int
	}{
		{instance{0, nil}, nil, nil, nil, nil, true, nil},
		{instance{2, nil}, [][]int{{}, nil}, nil, nil, [][]int{{}, {}}, true, nil},
		{instance{2, [][2]int{{1, 0}}}, [][]int{{1}, {0}}, [][]int{{0, 1}}, [][2]int{{0, 0}}, [][]int{{1}, {0}}, true, [][]int{{0, 1}}},
		{instance{3, [][2]int{{0, 1}, {1, 2}, {0, 2}}}, [][]int{{1, 2}, {0, 2}, {0, 1}}, [][]int{{0, 1, 2}, {0, 2, 1}}, [][2]int{{0, 1}, {0, 1}, {1, 0}}, [][]int{{1, 2}, {0, 2}, {0, 1}}, true, [][]int{{0, 1, 2}, {0, 2, 1}}},
		{instance{4, [][2]int{{3, 0}, {0, 1}, {2, 0}}}, [][]int{{2, 3, 1}, {0}, {0}, {0}}, [][]int{{0, 1, 0, 2, 0, 3}}, [][2]int{{0, 0}, {0, 0}, {0, 0}}, [][]int{{2, 1, 3}, {0}, {0}, {0}}, true, [][]int{{0, 1, 0, 3, 0, 2}}},
		{instance{4, complete(4)}, [][]int{{1, 2, 3}, {0, 3, 2}, {0, 1, 3}, {0, 2, 1}}, [][]int{{0, 1, 3}, {0, 2, 1}, {0, 3, 2}, {1, 2, 3}}, [][2]int{{0, 1}, {1, 2}, {2, 0}, {3, 1}, {0, 3}, {3, 2}}, [][]int{{1, 3, 2}, {0, 2, 3}, {0, 3, 1}, {0, 1, 2}}, true, [][]int{{0, 1, 2}, {0, 2, 3}, {0, 3, 1}, {1, 3, 2}}},
		{instance{4, complete(4)}, [][]int{{1, 2, 3}, {0, 2, 3}, {0, 1, 3}, {0, 1, 2}}, [][]int{{0, 1, 2, 3}, {0, 2, 1, 3, 2, 0, 3, 1}}, [][2]int{{0, 1}, {1, 1}, {1, 0}, {0, 1}, {1, 1}, {0, 1}}, [][]int{{1, 3, 2}, {0, 3, 2}, {0, 3, 1}, {0, 2, 1}}, false, [][]int{{0, 1, 3, 0, 2, 3, 1, 2}, {0, 3, 2, 1}}},
		{instance{5, slices.Concat(complete(2), moved(circle(3), 2))}, [][]int{{1}, {0}, {3, 4}, {2, 4}, {2, 3}}, [][]int{{0, 1}, {2, 3, 4}, {2, 4, 3}}, [][2]int{{0, 0}, {1, 2}, {1, 2}, {1, 2}}, [][]int{{1}, {0}, {3, 4}, {2, 4}, {2, 3}}, true, [][]int{{0, 1}, {2, 3, 4}, {2, 4, 3}}},
	}
	for _, c := range known {
		faces, e := planar.Faces(c.graph.n, c.graph.edges, c.rotation)
		if e != api.OK || !equalLists(faces, c.faces) {
			t.Errorf("Faces(%v, %v) = %v, %d; want %v", c.graph, c.rotation, faces, e, c.faces)
		}
		number, sides, e := planar.Dual(c.graph.n, c.graph.edges, c.rotation)
		if e != api.OK || number != len(c.faces) || !slices.Equal(sides, c.sides) {
			t.Errorf("Dual(%v, %v) = %d, %v, %d; want %v", c.graph, c.rotation, number, sides, e, c.sides)
		}
		mirror, e := planar.Mirror(c.graph.n, c.graph.edges, c.rotation)
		if e != api.OK || !equalLists(mirror, c.mirrored) {
			t.Errorf("Mirror(%v, %v) = %v, %d; want %v", c.graph, c.rotation, mirror, e, c.mirrored)
		}
		if faces, e := planar.Faces(c.graph.n, c.graph.edges, mirror); e != api.OK || !equalLists(faces, c.mirroredFaces) {
			t.Errorf("Faces(%v, %v) = %v, %d; want %v", c.graph, mirror, faces, e, c.mirroredFaces)
		}
		errno := api.ErrAnswer
		if c.isPlane {
			errno = api.OK
		}
		wantCheck(t, c.graph, api.Drawing{Planar: true, Rotation: c.rotation}, errno)
	}
	if d := draw(t, instance{4, complete(4)}); d.Planar {
		if faces, _ := planar.Faces(4, complete(4), d.Rotation); len(faces) != 4 {
			t.Errorf("four vertices, all six edges: %v", faces)
		}
	}
}

// notRotations returns lists that are not a rotation of the graph, made of one.
func notRotations(g instance, rotation [][]int) [][][]int {
	var result [][][]int
	change := func(do func(lists [][]int) [][]int) {
		result = append(result, do(cloneLists(rotation)))
	}
	change(func(lists [][]int) [][]int { return nil })
	change(func(lists [][]int) [][]int { return make([][]int, g.n) })
	change(func(lists [][]int) [][]int { return make([][]int, 100000) })
	change(func(lists [][]int) [][]int { return append(lists, nil) })
	change(func(lists [][]int) [][]int { return append(lists, []int{0}) })
	change(func(lists [][]int) [][]int { return append([][]int{nil}, lists...) })
	for v, list := range rotation {
		change(func(lists [][]int) [][]int { return slices.Delete(lists, v, v+1) })
		change(func(lists [][]int) [][]int { return slices.Insert(lists, v, nil) })
		change(func(lists [][]int) [][]int { lists[v] = append(lists[v], list...); return lists })
		change(func(lists [][]int) [][]int { lists[v] = make([]int, 100000); return lists })
		for i := range list {
			change(func(lists [][]int) [][]int { lists[v] = slices.Delete(lists[v], i, i+1); return lists })
			for _, u := range []int{v, list[(i+1)%len(list)], -1, g.n, 31, 32, 33, 64, list[i] + 32, list[i] + 64, list[i] + 1<<32, math.MaxInt, math.MinInt} {
				change(func(lists [][]int) [][]int { lists[v] = slices.Insert(lists[v], i, u); return lists })
				if u != list[i] {
					change(func(lists [][]int) [][]int { lists[v][i] = u; return lists })
				}
			}
		}
	}
	return result
}

func refuseFaces(t *testing.T, g instance, rotation [][]int) {
	t.Helper()
	if l, e := planar.Faces(g.n, g.edges, rotation); len(l) != 0 || e != api.ErrArg {
		t.Errorf("Faces(%d, %d edges, %d lists) = %v, %d", g.n, len(g.edges), len(rotation), l, e)
	}
	if n, l, e := planar.Dual(g.n, g.edges, rotation); n != 0 || len(l) != 0 || e != api.ErrArg {
		t.Errorf("Dual(%d, %d edges, %d lists) = %d, %v, %d", g.n, len(g.edges), len(rotation), n, l, e)
	}
	if l, e := planar.Mirror(g.n, g.edges, rotation); len(l) != 0 || e != api.ErrArg {
		t.Errorf("Mirror(%d, %d edges, %d lists) = %v, %d", g.n, len(g.edges), len(rotation), l, e)
	}
}

// P3.2: what is not a graph, or not a rotation of it.
func TestFacesErrors(t *testing.T) {
	for _, g := range notGraphs() {
		for _, rotation := range [][][]int{nil, {}, {nil}, {{1}, {0}, {}}, {{1}, {0}}, make([][]int, 3), make([][]int, 100000)} {
			refuseFaces(t, g, rotation)
		}
		if g.n >= 0 && g.n < 1000 {
			refuseFaces(t, g, make([][]int, g.n))
		}
	}
	for _, g := range []instance{{2, complete(2)}, {4, complete(4)}, {4, complete(4)[1:]}, {24, grid(6, 4)}} {
		for _, rotation := range notRotations(g, neighbors(g)) {
			refuseFaces(t, g, rotation)
		}
	}
	refuseFaces(t, instance{0, nil}, make([][]int, 1))
	refuseFaces(t, instance{1, nil}, nil)
	refuseFaces(t, instance{1, nil}, [][]int{{0}})
	// A rotation of a graph with more, fewer or other edges.
	refuseFaces(t, instance{3, [][2]int{{0, 1}}}, neighbors(instance{3, complete(3)}))
	refuseFaces(t, instance{3, complete(3)}, neighbors(instance{3, [][2]int{{0, 1}, {1, 2}}}))
	refuseFaces(t, instance{4, [][2]int{{0, 1}, {2, 3}}}, neighbors(instance{4, [][2]int{{0, 2}, {1, 3}}}))
}

// Rules 5 and 6: no result shares memory with an argument, or with another one.
func TestMemory(t *testing.T) {
	for _, g := range []instance{{4, complete(4)}, {5, complete(5)}, {7, slices.Concat(complete(4), moved(complete(4), 3))}, {6, grid(2, 3)}} {
		rotation := neighbors(g)
		faces, _ := planar.Faces(g.n, g.edges, rotation)
		mirror, _ := planar.Mirror(g.n, g.edges, rotation)
		again, _ := planar.Mirror(g.n, g.edges, mirror)
		d, _ := planar.Draw(g.n, g.edges)
		lists := slices.Concat(rotation, faces, mirror, again, d.Rotation, [][]int{d.Obstacle})
		copies := cloneLists(lists)
		// Writing to one list, also behind its end, leaves all others as they are.
		for i, list := range lists {
			list = list[:cap(list)]
			for j := range list {
				list[j] = 77
			}
			for k := i + 1; k < len(lists); k++ {
				if !slices.Equal(lists[k], copies[k]) {
					t.Errorf("of %v, results %d and %d share memory", g, i, k)
				}
			}
		}
	}
}
