package planar_test

import (
	"math/rand"
	"slices"
	"testing"

	"olivette/api"
	"olivette/planar"
)

// P3.3: no graph has right drawings of both kinds, of those that can all be tried.
func TestNotBoth(t *testing.T) {
	for n := range 6 {
		all := complete(n)
		for bits := range 1<<len(all) - 1 {
			g := instance{n, subset(all, bits)}
			noObstacle(t, g)
		}
	}
	noObstacle(t, instance{6, between(3, 3)[1:]})
	noObstacle(t, instance{6, slices.Concat(complete(4), [][2]int{{4, 0}, {4, 1}, {5, 1}, {5, 2}, {4, 5}})})
	noRotation(t, instance{5, complete(5)})
	noRotation(t, instance{6, between(3, 3)})
	noRotation(t, instance{6, append(between(3, 3), [2]int{0, 1})})
	noRotation(t, instance{6, divided(complete(5), 2, 5)})
	noRotation(t, instance{6, append(complete(5), [2]int{5, 3})})
	noRotation(t, instance{7, slices.Concat(between(3, 3), [][2]int{{6, 0}, {6, 4}})})
}

// noObstacle tries all positions, of a graph with a plane rotation.
func noObstacle(t *testing.T, g instance) {
	t.Helper()
	if d := draw(t, g); !d.Planar {
		t.Errorf("Draw(%d, %v) = %v", g.n, g.edges, d)
	}
	for bits := range 1 << len(g.edges) {
		wantCheck(t, g, api.Drawing{Obstacle: positionsOf(bits)}, api.ErrAnswer)
	}
}

// noRotation tries all rotations, of a graph with an obstacle.
func noRotation(t *testing.T, g instance) {
	t.Helper()
	if d := draw(t, g); d.Planar {
		t.Errorf("Draw(%d, %v) = %v", g.n, g.edges, d)
	}
	allRotations(g, func(rotation [][]int) {
		wantCheck(t, g, api.Drawing{Planar: true, Rotation: rotation}, api.ErrAnswer)
	})
}

// P3.3: what hangs together and has more than 3n - 6 edges is not planar; one edge less may be.
func TestManyEdges(t *testing.T) {
	random := rand.New(rand.NewSource(7))
	for n := 5; n <= api.MaxVertices; n++ {
		for range 10 {
			g := mixed(random, instance{n, triangles(random, n)})
			if !draw(t, g).Planar {
				t.Errorf("Draw(%d, %v): not planar", g.n, g.edges)
			}
			for _, e := range complete(n) {
				back := [2]int{e[1], e[0]}
				if !slices.Contains(g.edges, e) && !slices.Contains(g.edges, back) {
					g.edges = append(g.edges, e)
					break
				}
			}
			if draw(t, mixed(random, g)).Planar {
				t.Errorf("Draw(%d, %v): planar", g.n, g.edges)
			}
		}
	}
}

// P3.3: removing edges from a planar graph leaves a planar one; dividing an edge changes nothing.
func TestChangedEdges(t *testing.T) {
	random := rand.New(rand.NewSource(8))
	for range 400 {
		n := 5 + random.Intn(12)
		all := mixed(random, instance{n, complete(n)}).edges
		g := instance{n, all[:min(len(all), n+random.Intn(n))]}
		before := draw(t, g).Planar
		longer := instance{n + 1, divided(g.edges, random.Intn(len(g.edges)), n)}
		if draw(t, longer).Planar != before {
			t.Errorf("%v is planar: %t; but %v is not alike", g, before, longer)
		}
		i := random.Intn(len(g.edges))
		less := instance{n, slices.Delete(slices.Clone(g.edges), i, i+1)}
		if before && !draw(t, less).Planar {
			t.Errorf("%v is planar, but %v is not", g, less)
		}
	}
}

// P3.3: the mirror of a plane rotation is plane, and has as many faces; that of the mirror is the rotation again.
func TestMirrorTwice(t *testing.T) {
	random := rand.New(rand.NewSource(9))
	for range 300 {
		n := 3 + random.Intn(api.MaxVertices-2)
		g := mixed(random, instance{n, triangles(random, n)})
		g.edges = g.edges[random.Intn(len(g.edges)):]
		rotation := draw(t, g).Rotation
		mirror, e := planar.Mirror(g.n, g.edges, rotation)
		if e != api.OK {
			t.Fatalf("Mirror(%d, %v, %v): %d", g.n, g.edges, rotation, e)
		}
		wantCheck(t, g, api.Drawing{Planar: true, Rotation: mirror}, api.OK)
		faces, _ := planar.Faces(g.n, g.edges, rotation)
		mirrored, _ := planar.Faces(g.n, g.edges, mirror)
		if len(faces) != len(mirrored) {
			t.Errorf("%v: %v, but %v", g, faces, mirrored)
		}
		if twice, _ := planar.Mirror(g.n, g.edges, mirror); !equalLists(twice, rotation) {
			t.Errorf("the mirror of the mirror of %v is %v", rotation, twice)
		}
	}
}
