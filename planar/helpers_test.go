package planar_test

import (
	"math"
	"math/rand"
	"slices"
	"testing"

	"olivette/api"
	"olivette/planar"
)

// instance is a graph.
type instance struct {
	n     int
	edges [][2]int
}

// complete returns all edges of n vertices.
func complete(n int) [][2]int {
	var edges [][2]int
	for u := range n {
		for v := u + 1; v < n; v++ {
			edges = append(edges, [2]int{u, v})
		}
	}
	return edges
}

// between returns all edges from the first a vertices to the next b ones.
func between(a, b int) [][2]int {
	var edges [][2]int
	for u := range a {
		for v := range b {
			edges = append(edges, [2]int{u, a + v})
		}
	}
	return edges
}

func circle(n int) [][2]int {
	var edges [][2]int
	for v := range n {
		edges = append(edges, [2]int{v, (v + 1) % n})
	}
	return edges
}

// moved returns the edges with numbers of vertices that are greater by that much.
func moved(edges [][2]int, by int) [][2]int {
	var list [][2]int
	for _, e := range edges {
		list = append(list, [2]int{e[0] + by, e[1] + by})
	}
	return list
}

// divided returns the edges with the one at the position divided by the new vertex v.
func divided(edges [][2]int, position, v int) [][2]int {
	list := slices.Clone(edges)
	u, w := list[position][0], list[position][1]
	list[position] = [2]int{u, v}
	return append(list, [2]int{w, v})
}

// petersen is not planar, and has no five vertices with more than three edges.
func petersen() [][2]int {
	edges := circle(5)
	for v := range 5 {
		edges = append(edges, [2]int{v, v + 5}, [2]int{v + 5, (v+2)%5 + 5})
	}
	return edges
}

func grid(width, height int) [][2]int {
	var edges [][2]int
	for y := range height {
		for x := range width {
			if x > 0 {
				edges = append(edges, [2]int{y*width + x - 1, y*width + x})
			}
			if y > 0 {
				edges = append(edges, [2]int{(y-1)*width + x, y*width + x})
			}
		}
	}
	return edges
}

// triangles returns a planar graph of n vertices, at least three, with as many edges as there can be: it puts vertices into triangles, and turns edges between two triangles.
func triangles(random *rand.Rand, n int) [][2]int {
	faces := [][3]int{{0, 1, 2}, {0, 2, 1}}
	for v := 3; v < n; v++ {
		i := random.Intn(len(faces))
		a, b, c := faces[i][0], faces[i][1], faces[i][2]
		faces[i] = [3]int{a, b, v}
		faces = append(faces, [3]int{b, c, v}, [3]int{c, a, v})
		for range 4 {
			turnEdge(faces, random.Intn(len(faces)))
		}
	}
	var edges [][2]int
	for _, f := range faces {
		for i, u := range f {
			if v := f[(i+1)%3]; u < v {
				edges = append(edges, [2]int{u, v})
			}
		}
	}
	return edges
}

// turnEdge replaces the first edge a b of the triangle by the one that crosses it, unless its ends c and d have an edge already.
func turnEdge(faces [][3]int, i int) {
	a, b, c := faces[i][0], faces[i][1], faces[i][2]
	other, d := -1, -1
	for j, f := range faces {
		for k := range 3 {
			if f[k] == b && f[(k+1)%3] == a {
				other, d = j, f[(k+2)%3]
			}
		}
	}
	for _, f := range faces {
		if slices.Contains(f[:], c) && slices.Contains(f[:], d) {
			return
		}
	}
	faces[i] = [3]int{a, d, c}
	faces[other] = [3]int{d, b, c}
}

// mixed returns the graph with its vertices numbered otherwise, its edges in another order, and some of them in the other direction.
func mixed(random *rand.Rand, g instance) instance {
	number := random.Perm(g.n)
	edges := make([][2]int, 0, len(g.edges))
	for _, e := range g.edges {
		u, v := number[e[0]], number[e[1]]
		if random.Intn(2) == 0 {
			u, v = v, u
		}
		edges = append(edges, [2]int{u, v})
	}
	random.Shuffle(len(edges), func(i, j int) { edges[i], edges[j] = edges[j], edges[i] })
	return instance{g.n, edges}
}

// subset returns the edges at the positions whose bits are set.
func subset(edges [][2]int, bits int) [][2]int {
	var list [][2]int
	for i, e := range edges {
		if bits>>i&1 == 1 {
			list = append(list, e)
		}
	}
	return list
}

// positionsOf returns the positions whose bits are set.
func positionsOf(bits int) []int {
	var list []int
	for i := 0; bits>>i != 0; i++ {
		if bits>>i&1 == 1 {
			list = append(list, i)
		}
	}
	return list
}

// neighbors returns the lists of neighbors in ascending order, which are a rotation.
func neighbors(g instance) [][]int {
	lists := make([][]int, g.n)
	for _, e := range g.edges {
		lists[e[0]] = append(lists[e[0]], e[1])
		lists[e[1]] = append(lists[e[1]], e[0])
	}
	for _, list := range lists {
		slices.Sort(list)
	}
	return lists
}

// someRotation is any one of the graph.
func someRotation(random *rand.Rand, g instance) [][]int {
	lists := neighbors(g)
	for _, list := range lists {
		random.Shuffle(len(list), func(i, j int) { list[i], list[j] = list[j], list[i] })
	}
	return lists
}

// allRotations calls do with each rotation of the graph, but for the vertex that comes first in each list.
func allRotations(g instance, do func(rotation [][]int)) {
	lists := neighbors(g)
	var vary func(v, i int)
	vary = func(v, i int) {
		switch {
		case v == g.n:
			do(lists)
		case i >= len(lists[v]):
			vary(v+1, 1)
		default:
			for j := i; j < len(lists[v]); j++ {
				lists[v][i], lists[v][j] = lists[v][j], lists[v][i]
				vary(v, i+1)
				lists[v][i], lists[v][j] = lists[v][j], lists[v][i]
			}
		}
	}
	vary(0, 1)
}

func isPlainRotation(g instance, rotation [][]int) bool {
	if len(rotation) != g.n {
		return false
	}
	for v, list := range neighbors(g) {
		given := slices.Clone(rotation[v])
		slices.Sort(given)
		if !slices.Equal(list, given) {
			return false
		}
	}
	return true
}

// plainFaces goes on from each directed edge until it comes back, and keeps a face where it begins with its first one.
func plainFaces(rotation [][]int) [][]int {
	var list [][]int
	for u := range rotation {
		for v := range rotation {
			if !slices.Contains(rotation[u], v) {
				continue
			}
			face, isFirst := []int{u}, true
			from, to := u, v
			for {
				i := slices.Index(rotation[to], from)
				from, to = to, rotation[to][(i+1)%len(rotation[to])]
				if from == u && to == v {
					break
				}
				face = append(face, from)
				isFirst = isFirst && (from > u || from == u && to > v)
			}
			if isFirst {
				list = append(list, face)
			}
		}
	}
	return list
}

// isPlainPlane numbers what hangs together by carrying the least numbers along the edges.
func isPlainPlane(g instance, rotation [][]int) bool {
	number := make([]int, g.n)
	for v := range number {
		number[v] = v
	}
	for range g.n {
		for _, e := range g.edges {
			least := min(number[e[0]], number[e[1]])
			number[e[0]], number[e[1]] = least, least
		}
	}
	vertices, sum := make([]int, g.n), make([]int, g.n)
	for _, k := range number {
		vertices[k]++
		sum[k]++
	}
	for _, e := range g.edges {
		sum[number[e[0]]]--
	}
	for _, face := range plainFaces(rotation) {
		sum[number[face[0]]]++
	}
	for k := range number {
		if vertices[k] > 1 && sum[k] != 2 {
			return false
		}
	}
	return true
}

// isPlainObstacle follows the definition, with edges in a list that may have some twice, or from a vertex to itself.
func isPlainObstacle(g instance, positions []int) bool {
	var left [][2]int
	degree := make([]int, g.n)
	for k, i := range positions {
		if i < 0 || i >= len(g.edges) || k > 0 && positions[k-1] >= i {
			return false
		}
		left = append(left, g.edges[i])
		degree[g.edges[i][0]]++
		degree[g.edges[i][1]]++
	}
	for v, d := range degree {
		if d == 1 || d > 4 {
			return false
		}
		if d == 2 {
			left = withoutVertex(left, v)
		}
	}
	times := map[[2]int]int{}
	kept := map[int]int{}
	for _, e := range left {
		times[[2]int{min(e[0], e[1]), max(e[0], e[1])}]++
		kept[e[0]]++
		kept[e[1]]++
	}
	for e, n := range times {
		if n > 1 || e[0] == e[1] {
			return false
		}
	}
	// Without edges that are there twice, five vertices with ten edges have them all.
	return len(kept) == 5 && len(times) == 10 || len(kept) == 6 && len(times) == 9 && areThreeByThree(times, kept)
}

// withoutVertex joins the other ends of the two edges at v. One edge from v to itself stays.
func withoutVertex(edges [][2]int, v int) [][2]int {
	var rest [][2]int
	var ends []int
	for _, e := range edges {
		switch {
		case e[0] == v && e[1] == v:
			return edges
		case e[0] == v:
			ends = append(ends, e[1])
		case e[1] == v:
			ends = append(ends, e[0])
		default:
			rest = append(rest, e)
		}
	}
	return append(rest, [2]int{ends[0], ends[1]})
}

// areThreeByThree tries all groups of three of the six vertices.
func areThreeByThree(times map[[2]int]int, kept map[int]int) bool {
	var six []int
	for v := range kept {
		six = append(six, v)
	}
	for bits := range 64 {
		crossing, size := 0, 0
		for i := range 6 {
			size += bits >> i & 1
		}
		for e := range times {
			if bits>>slices.Index(six, e[0])&1 != bits>>slices.Index(six, e[1])&1 {
				crossing++
			}
		}
		if size == 3 && crossing == 9 {
			return true
		}
	}
	return false
}

func isPlainRight(g instance, d api.Drawing) bool {
	if d.Planar {
		return isPlainRotation(g, d.Rotation) && isPlainPlane(g, d.Rotation) && len(d.Obstacle) == 0
	}
	return len(d.Rotation) == 0 && isPlainObstacle(g, d.Obstacle)
}

// draw returns what Draw returns, after it has been found right, and its arguments unchanged.
func draw(t *testing.T, g instance) api.Drawing {
	t.Helper()
	before := slices.Clone(g.edges)
	d, e := planar.Draw(g.n, g.edges)
	if e != api.OK || !isPlainRight(g, d) {
		t.Fatalf("Draw(%d, %v) = %v, %d", g.n, g.edges, d, e)
	}
	if e := planar.Check(g.n, g.edges, d); e != api.OK {
		t.Fatalf("Check(%d, %v, %v) = %d", g.n, g.edges, d, e)
	}
	if !slices.Equal(before, g.edges) {
		t.Fatalf("%v became %v", before, g.edges)
	}
	return d
}

func wantCheck(t *testing.T, g instance, d api.Drawing, errno api.Errno) {
	t.Helper()
	if e := planar.Check(g.n, g.edges, d); e != errno {
		t.Errorf("Check(%d, %v, %v) = %d; want %d", g.n, g.edges, d, e, errno)
	}
}

// notGraphs are arguments that are not a graph.
func notGraphs() []instance {
	list := []instance{
		{-1, nil}, {math.MinInt, nil}, {api.MaxVertices + 1, nil}, {32, nil}, {33, [][2]int{{0, 32}}}, {64, nil}, {math.MaxInt, nil},
		{-1, [][2]int{{0, 1}}}, {25, [][2]int{{0, 1}}}, {0, [][2]int{{0, 0}}}, {0, [][2]int{{0, 1}}}, {1, [][2]int{{0, 0}}}, {1, [][2]int{{0, 1}}},
		{3, [][2]int{{1, 1}}}, {3, [][2]int{{0, 1}, {2, 2}}}, {3, [][2]int{{0, 1}, {0, 1}}}, {3, [][2]int{{0, 1}, {1, 2}, {1, 0}}},
		{24, complete(15)[:101]}, {24, make([][2]int, 100000)}, {2, slices.Repeat([][2]int{{0, 1}}, 101)},
	}
	for _, bad := range []int{-1, -2, 3, 4, 24, 31, 32, 33, 64, 1 << 32, 1<<32 + 2, math.MaxInt, math.MinInt} {
		list = append(list, instance{3, [][2]int{{bad, 0}}}, instance{3, [][2]int{{0, bad}}}, instance{3, [][2]int{{0, 1}, {1, bad}}}, instance{3, [][2]int{{bad, bad}}})
	}
	return list
}
