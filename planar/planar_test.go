package planar_test

import (
	"math"
	"math/rand"
	"slices"
	"testing"

	"olivette/api"
	"olivette/planar"
)

// P3.1: of all graphs with few vertices, the drawings are right, and as many are planar as is known.
func TestDrawSmall(t *testing.T) {
	for n, number := range []int{1, 1, 2, 8, 64, 1023, 32071} {
		all := complete(n)
		planarOnes := 0
		for bits := range 1 << len(all) {
			if draw(t, instance{n, subset(all, bits)}).Planar {
				planarOnes++
			}
		}
		if planarOnes != number {
			t.Errorf("%d graphs of %d vertices are planar; want %d", planarOnes, n, number)
		}
	}
}

// P3.1: the examples, and graphs that are known to be planar or not.
func TestDrawKnown(t *testing.T) {
	known := []struct {
		name   string
		graph  instance
		planar bool
	}{
		{"nothing", instance{0, nil}, true},
		{"nothing, but not nil", instance{0, [][2]int{}}, true},
		{"vertices alone", instance{api.MaxVertices, nil}, true},
		{"one edge", instance{2, [][2]int{{1, 0}}}, true},
		{"a tree", instance{7, [][2]int{{6, 0}, {0, 5}, {1, 5}, {5, 2}, {4, 2}, {3, 4}}}, true},
		{"a star", instance{api.MaxVertices, between(1, 23)}, true},
		{"a circle", instance{api.MaxVertices, circle(api.MaxVertices)}, true},
		{"four, all edges", instance{4, complete(4)}, true},
		{"five, all edges", instance{5, complete(5)}, false},
		{"five, all edges but one", instance{5, complete(5)[1:]}, true},
		{"three by three", instance{6, between(3, 3)}, false},
		{"three by three, but one", instance{6, between(3, 3)[:8]}, true},
		{"two by many", instance{api.MaxVertices, between(2, 22)}, true},
		{"three by many", instance{api.MaxVertices, between(3, 21)}, false},
		{"a grid", instance{24, grid(6, 4)}, true},
		{"petersen", instance{10, petersen()}, false},
		{"fourteen, all edges", instance{14, complete(14)}, false},
		{"a hundred edges", instance{15, complete(15)[:100]}, false},
		{"five among others", instance{24, slices.Concat(grid(4, 4), moved(complete(5), 16), [][2]int{{15, 16}, {23, 0}})}, false},
		{"three by three among others", instance{24, slices.Concat(complete(4), moved(between(3, 3), 4), moved(circle(9), 10), [][2]int{{3, 4}, {9, 10}})}, false},
		{"fours with common vertices", instance{13, slices.Concat(complete(4), moved(complete(4), 3), moved(complete(4), 6), moved(complete(4), 9))}, true},
		{"fours side by side", instance{24, slices.Concat(complete(4), moved(complete(4), 4), moved(complete(4), 8), moved(complete(4), 12), moved(complete(4), 16), moved(complete(4), 20))}, true},
	}
	random := rand.New(rand.NewSource(1))
	for _, c := range known {
		if d := draw(t, c.graph); d.Planar != c.planar {
			t.Errorf("%s: %v", c.name, d)
		}
		for range 30 {
			if d := draw(t, mixed(random, c.graph)); d.Planar != c.planar {
				t.Errorf("%s, mixed: %v", c.name, d)
			}
		}
	}
}

// P3.1: an obstacle that is alone in its graph has all edges, those of dead ends excepted.
func TestDrawObstacle(t *testing.T) {
	random := rand.New(rand.NewSource(2))
	for range 300 {
		g := instance{5, complete(5)}
		if random.Intn(2) == 0 {
			g = instance{6, between(3, 3)}
		}
		for g.n < 6+random.Intn(14) {
			g.edges = divided(g.edges, random.Intn(len(g.edges)), g.n)
			g.n++
		}
		whole := mixed(random, g)
		if d := draw(t, whole); len(d.Obstacle) != len(g.edges) {
			t.Errorf("Draw(%d, %v) = %v", whole.n, whole.edges, d)
		}
		// A tree that hangs on it, and a circle with one common vertex.
		size := len(g.edges)
		tail := random.Intn(g.n)
		g.edges = append(g.edges, [2]int{tail, g.n}, [2]int{g.n, g.n + 1}, [2]int{g.n + 2, g.n}, [2]int{g.n + 3, tail}, [2]int{tail, g.n + 4}, [2]int{g.n + 3, g.n + 4})
		g.n += 5
		whole = mixed(random, g)
		if d := draw(t, whole); len(d.Obstacle) != size {
			t.Errorf("Draw(%d, %v) = %v", whole.n, whole.edges, d)
		}
	}
}

// P3.1: graphs up to the limits: what is made of triangles is planar.
func TestDrawLarge(t *testing.T) {
	random := rand.New(rand.NewSource(3))
	for range 300 {
		n := 3 + random.Intn(api.MaxVertices-2)
		full := mixed(random, instance{n, triangles(random, n)})
		if len(full.edges) != 3*n-6 {
			t.Fatalf("%d vertices, %d edges", n, len(full.edges))
		}
		if d := draw(t, full); !d.Planar {
			t.Errorf("Draw(%d, %v) = %v", full.n, full.edges, d)
		}
		part := instance{n, full.edges[random.Intn(len(full.edges)):]}
		if d := draw(t, part); !d.Planar {
			t.Errorf("Draw(%d, %v) = %v", part.n, part.edges, d)
		}
	}
	for range 600 {
		n := 2 + random.Intn(api.MaxVertices-1)
		all := mixed(random, instance{n, complete(n)}).edges
		draw(t, instance{n, all[:random.Intn(min(len(all), api.MaxEdges)+1)]})
		draw(t, instance{n, all[:min(len(all), n+random.Intn(6))]})
	}
}

// P3.1: of each set of positions, Check says what the definition of an obstacle does.
func TestCheckObstacles(t *testing.T) {
	five, three := complete(5), between(3, 3)
	graphs := []instance{
		{5, five},
		{6, complete(6)[1:]},
		{7, between(4, 3)}, // whole, it is more than three by three
		{8, slices.Concat(five, moved(circle(3), 5))},                                            // with a circle aside
		{7, slices.Concat(divided(five, 3, 5), [][2]int{{0, 4}, {5, 6}, {6, 2}})},                // with edges that are there twice when shortened
		{8, slices.Concat(divided(three, 4, 6), [][2]int{{1, 4}, {6, 7}, {7, 5}})},               // the same
		{8, slices.Concat(divided(divided(three, 0, 6), 9, 7), [][2]int{{0, 1}})},                // divided twice
		{8, slices.Concat(five, [][2]int{{4, 5}, {5, 6}, {6, 4}, {6, 7}})},                       // with a circle at a vertex
		{6, slices.Concat(complete(3), moved(complete(3), 3), [][2]int{{0, 3}, {1, 4}, {2, 5}})}, // nine edges, each vertex with three, but planar
	}
	random := rand.New(rand.NewSource(4))
	for _, g := range graphs {
		found := 0
		for bits := range 1 << len(g.edges) {
			list := positionsOf(bits)
			errno := api.ErrAnswer
			if isPlainObstacle(g, list) {
				errno = api.OK
				found++
			}
			wantCheck(t, g, api.Drawing{Obstacle: list}, errno)
			if len(list) > 1 && errno == api.OK {
				random.Shuffle(len(list), func(i, j int) { list[i], list[j] = list[j], list[i] })
				if !slices.IsSorted(list) {
					wantCheck(t, g, api.Drawing{Obstacle: list}, api.ErrAnswer)
				}
			}
		}
		if d := draw(t, g); d.Planar != (found == 0) {
			t.Errorf("%v has %d obstacles", g, found)
		}
	}
}

// P3.1: of each rotation, Check says what the definition of a plane one does.
func TestCheckRotations(t *testing.T) {
	graphs := []instance{{0, nil}, {3, nil}, {2, complete(2)}, {4, complete(4)}, {5, complete(5)[1:]}, {5, complete(5)}, {6, between(3, 3)}, {6, between(3, 3)[1:]},
		{6, slices.Concat(complete(4), [][2]int{{0, 4}, {4, 5}})}, {8, slices.Concat(complete(4), moved(complete(4), 4))}, {7, slices.Concat(complete(4), moved(complete(4), 3))}}
	random := rand.New(rand.NewSource(5))
	for _, g := range graphs {
		right := 0
		allRotations(g, func(rotation [][]int) {
			errno := api.ErrAnswer
			if isPlainPlane(g, rotation) {
				errno = api.OK
				right++
			}
			wantCheck(t, g, api.Drawing{Planar: true, Rotation: rotation}, errno)
		})
		if d := draw(t, g); d.Planar != (right > 0) {
			t.Errorf("%v has %d plane rotations", g, right)
		}
	}
	for range 2000 {
		n := random.Intn(api.MaxVertices + 1)
		all := mixed(random, instance{n, complete(n)}).edges
		g := instance{n, all[:random.Intn(min(len(all), 12)+1)]}
		rotation := someRotation(random, g)
		errno := api.ErrAnswer
		if isPlainPlane(g, rotation) {
			errno = api.OK
		}
		wantCheck(t, g, api.Drawing{Planar: true, Rotation: rotation}, errno)
	}
}

// P3.1: drawings with a part that does not belong to them, or without one.
func TestCheckParts(t *testing.T) {
	four, five := instance{4, complete(4)}, instance{5, complete(5)}
	plane := draw(t, four).Rotation
	ten := []int{0, 1, 2, 3, 4, 5, 6, 7, 8, 9}
	wantCheck(t, four, api.Drawing{Planar: true, Rotation: plane, Obstacle: []int{}}, api.OK)
	wantCheck(t, five, api.Drawing{Rotation: [][]int{}, Obstacle: ten}, api.OK)
	wantCheck(t, four, api.Drawing{Rotation: plane}, api.ErrAnswer)
	wantCheck(t, four, api.Drawing{Planar: true, Rotation: plane, Obstacle: []int{0}}, api.ErrAnswer)
	wantCheck(t, five, api.Drawing{Planar: true, Obstacle: ten}, api.ErrAnswer)
	wantCheck(t, five, api.Drawing{Planar: true, Rotation: neighbors(five), Obstacle: ten}, api.ErrAnswer)
	wantCheck(t, five, api.Drawing{Rotation: neighbors(five), Obstacle: ten}, api.ErrAnswer)
	wantCheck(t, five, api.Drawing{Rotation: make([][]int, 1), Obstacle: ten}, api.ErrAnswer)
	wantCheck(t, five, api.Drawing{Rotation: make([][]int, 5), Obstacle: ten}, api.ErrAnswer)
	wantCheck(t, instance{0, nil}, api.Drawing{Planar: true}, api.OK)
	for _, g := range []instance{{0, nil}, {1, nil}, four, five} {
		wantCheck(t, g, api.Drawing{}, api.ErrAnswer)
	}
	for _, g := range []instance{{1, nil}, four, five} {
		wantCheck(t, g, api.Drawing{Planar: true}, api.ErrAnswer)
	}
	for _, bad := range []int{-1, 10, 11, 32, 1 << 32, math.MaxInt, math.MinInt} {
		for i := range ten {
			list := slices.Clone(ten)
			list[i] = bad
			wantCheck(t, five, api.Drawing{Obstacle: list}, api.ErrAnswer)
			slices.Sort(list)
			wantCheck(t, five, api.Drawing{Obstacle: list}, api.ErrAnswer)
			wantCheck(t, five, api.Drawing{Obstacle: slices.Insert(slices.Clone(ten), i, bad)}, api.ErrAnswer)
		}
		wantCheck(t, five, api.Drawing{Obstacle: append(slices.Clone(ten), bad)}, api.ErrAnswer)
	}
	for i := range ten {
		wantCheck(t, five, api.Drawing{Obstacle: slices.Insert(slices.Clone(ten), i, i)}, api.ErrAnswer)
		wantCheck(t, five, api.Drawing{Obstacle: slices.Delete(slices.Clone(ten), i, i+1)}, api.ErrAnswer)
	}
	wantCheck(t, five, api.Drawing{Obstacle: make([]int, 100000)}, api.ErrAnswer)
}

// P3.1: a drawing whose rotation is none is not right, but no invalid argument.
func TestCheckNoRotation(t *testing.T) {
	g := instance{4, complete(4)[1:]}
	for _, rotation := range notRotations(g, draw(t, g).Rotation) {
		wantCheck(t, g, api.Drawing{Planar: true, Rotation: rotation}, api.ErrAnswer)
	}
}

// P3.1: what is not a graph comes before what is not right.
func TestDrawErrors(t *testing.T) {
	for _, g := range notGraphs() {
		if d, e := planar.Draw(g.n, g.edges); d.Planar || len(d.Rotation) != 0 || len(d.Obstacle) != 0 || e != api.ErrArg {
			t.Errorf("Draw(%d, %d edges) = %v, %d", g.n, len(g.edges), d, e)
		}
		for _, d := range []api.Drawing{{}, {Planar: true}, {Planar: true, Rotation: make([][]int, 3)}, {Obstacle: []int{0, 1, 2}}, {Planar: true, Rotation: [][]int{{1}, {0}, {}}}} {
			if e := planar.Check(g.n, g.edges, d); e != api.ErrArg {
				t.Errorf("Check(%d, %d edges, %v) = %d", g.n, len(g.edges), d, e)
			}
		}
	}
}
