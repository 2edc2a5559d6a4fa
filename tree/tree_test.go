package tree_test

import (
	"math"
	"math/rand"
	"slices"
	"testing"

	"olivette/api"
	"olivette/tree"
)

// P7.1: the widths that are known.
func TestKnownWidths(t *testing.T) {
	random := rand.New(rand.NewSource(1))
	for _, c := range []struct {
		g     instance
		width int
	}{
		{instance{}, -1}, {instance{n: 1}, 0}, {instance{n: 3}, 0}, {instance{n: 14}, 0},
		{path(2), 1}, {path(14), 1}, {parts(1, 13), 1}, {instance{14, [][2]int{{3, 9}}}, 1}, {instance{5, [][2]int{{0, 1}, {2, 3}}}, 1},
		{circle(3), 2}, {circle(5), 2}, {circle(14), 2}, {parts(2, 12), 2}, {grid(7, 2), 2}, {around(6, 1, 3), 3},
		{complete(4), 3}, {complete(13), 12}, {complete(14), 13}, {withoutEdge(complete(14), 40), 12},
		{parts(3, 3), 3}, {parts(7, 7), 7}, {parts(5, 9), 5}, {parts(2, 2, 2), 4}, {parts(5, 5, 4), 9}, {parts(2, 2, 2, 2, 2, 2, 2), 12},
		{grid(3, 3), 3}, {grid(4, 3), 3}, {cube(3), 3}, {wheel(14), 3}, {prism(4), 3}, {prism(3), 3},
		// These two, with five vertices and their edges and the octahedron, are what all graphs wider than 3 contain.
		{prism(5), 4}, {around(8, 1, 4), 4},
		{petersen(), 4}, {heawood(), 5}, {around(7, 1, 2), 4}, {around(14, 1, 2), 4},
	} {
		wantWidth(t, c.g, c.width)
		wantWidth(t, shuffled(random, c.g), c.width)
	}
}

// P7.1: no right decomposition is narrower, of the small ones, which are all tried; Check says of all of them what the definition says.
func TestAllSmallTrees(t *testing.T) {
	shapes := [][][2]int{{}, {{0, 1}}, {{0, 1}, {1, 2}}, {{1, 0}, {2, 0}}, {{0, 2}, {2, 1}}}
	for n := range 5 {
		allGraphs(n, func(g instance) {
			_, width := decompose(t, g)
			right := 0
			for _, links := range shapes {
				allBags(n, len(links)+1, func(bags [][]int) {
					x := api.Tree{Bags: bags, Links: links}
					if wantPlainCheck(t, g, x) {
						right++
						if plainWidth(x) < width {
							t.Fatalf("Decompose(%d, %v): %d, but %v", n, g.edges, width, x)
						}
					}
				})
			}
			if right == 0 {
				t.Errorf("%v has no right tree", g)
			}
		})
	}
}

// allBags calls do with all lists of so many bags of n vertices.
func allBags(n, count int, do func(bags [][]int)) {
	bags := make([][]int, count)
	for code := range 1 << (n * count) {
		for i := range bags {
			bags[i] = members(code >> (i * n) & (1<<n - 1))
		}
		do(bags)
	}
}

// P7.1: the width is that of the narrowest of all orders, for all small graphs and for some of all sizes.
func TestNarrowest(t *testing.T) {
	check := func(g instance) {
		wantWidth(t, g, narrowest(joinedTo(g), 0, map[int]int{}))
	}
	for n := range 6 {
		allGraphs(n, check)
	}
	random := rand.New(rand.NewSource(2))
	for n := 6; n <= 10; n++ {
		for range 20 {
			check(someGraph(random, n, random.Float64()))
		}
	}
	for range 6 {
		check(someGraph(random, api.MaxSmall, 0.2+0.4*random.Float64()))
	}
}

// P7.1: each thing that a right decomposition must have is missed if it is not there.
func TestCheckNamed(t *testing.T) {
	square := circle(4)
	bags := func(lists ...[]int) [][]int { return lists }
	a, b := []int{0, 1, 2}, []int{0, 2, 3}
	link := [][2]int{{0, 1}}
	wantCheck(t, square, api.Tree{Bags: bags(a, b), Links: link}, 2, api.OK)
	wantCheck(t, square, api.Tree{Bags: bags(a, b), Links: [][2]int{{1, 0}}}, 2, api.OK)
	wantCheck(t, square, api.Tree{Bags: bags([]int{0, 1, 2, 3})}, 3, api.OK)
	wantCheck(t, square, api.Tree{Bags: bags(a, b, nil), Links: [][2]int{{0, 1}, {1, 2}}}, 2, api.OK)
	wantCheck(t, square, api.Tree{Bags: bags(a, b, b), Links: [][2]int{{0, 1}, {2, 1}}}, 2, api.OK)
	for _, x := range []api.Tree{
		{}, {Bags: bags()}, {Links: link}, {Bags: bags(nil)},
		{Bags: bags(a, b)}, {Bags: bags(a, b), Links: [][2]int{{0, 1}, {0, 1}}}, {Bags: bags(a, b), Links: [][2]int{{0, 1}, {1, 0}}},
		{Bags: bags(a, b), Links: [][2]int{{0, 0}}}, {Bags: bags(a, b), Links: [][2]int{{1, 1}}}, {Bags: bags([]int{0, 1, 2, 3}), Links: [][2]int{{0, 0}}},
		{Bags: bags(a, b), Links: [][2]int{{0, 2}}}, {Bags: bags(a, b), Links: [][2]int{{-1, 1}}}, {Bags: bags(a, b), Links: [][2]int{{math.MinInt, math.MaxInt}}},
		{Bags: bags(a, b, a), Links: [][2]int{{0, 1}, {0, 1}}}, {Bags: bags(a, b, nil), Links: [][2]int{{0, 1}, {1, 0}}},
		{Bags: bags(nil, a, b), Links: [][2]int{{1, 2}, {1, 2}}}, {Bags: bags(a, b, nil, nil, nil), Links: [][2]int{{0, 1}, {2, 3}, {3, 4}, {4, 2}}},
		{Bags: bags(a, b, b), Links: [][2]int{{0, 1}, {0, 2}}},
		{Bags: bags(a, b, b), Links: [][2]int{{0, 1}, {1, -1}}}, {Bags: bags(a, b, b), Links: [][2]int{{0, 1}, {3, 1}}}, {Bags: bags(a, b, b), Links: [][2]int{{0, 1}, {math.MinInt, 1}}}, {Bags: bags(a, b, b), Links: [][2]int{{0, 1}, {1, math.MaxInt}}},
		{Bags: bags(a, nil, b), Links: [][2]int{{0, 1}, {1, 2}}}, {Bags: bags(a, []int{0}, b), Links: [][2]int{{0, 1}, {1, 2}}},
		{Bags: bags(a, []int{0, 2}, []int{0, 3}), Links: [][2]int{{0, 1}, {1, 2}}}, {Bags: bags([]int{0, 1}, []int{1, 2}, []int{2, 3}), Links: [][2]int{{0, 1}, {1, 2}}},
		{Bags: bags([]int{1, 0, 2}, b), Links: link}, {Bags: bags([]int{0, 1, 1, 2}, b), Links: link}, {Bags: bags([]int{0, 0, 1, 2}, b), Links: link}, {Bags: bags(a, []int{0, 3, 2}), Links: link},
		{Bags: bags(a, []int{0, 2, 3, 4}), Links: link}, {Bags: bags(a, []int{-1, 0, 2, 3}), Links: link}, {Bags: bags(a, []int{0, 2, 3, 64}), Links: link},
		{Bags: bags(a, []int{0, 2, 3, 1 << 32}), Links: link}, {Bags: bags([]int{math.MinInt, 0, 1, 2}, b), Links: link}, {Bags: bags(a, []int{0, 2, 3, math.MaxInt}), Links: link},
	} {
		wantCheck(t, square, x, 0, api.ErrAnswer)
	}
	// All edges are in a bag, but one vertex has none.
	lonely := instance{3, [][2]int{{0, 1}}}
	wantCheck(t, lonely, api.Tree{Bags: bags([]int{0, 1})}, 0, api.ErrAnswer)
	wantCheck(t, lonely, api.Tree{Bags: bags([]int{0, 1}, []int{2}), Links: link}, 1, api.OK)
	wantCheck(t, lonely, api.Tree{Bags: bags([]int{0, 1}, []int{1, 2}), Links: link}, 1, api.OK)
}

// P7.1: without vertices the width is -1.
func TestNoVertices(t *testing.T) {
	x, _ := decompose(t, instance{})
	if len(x.Bags) == 0 {
		t.Errorf("no bags")
	}
	wantCheck(t, instance{}, api.Tree{Bags: [][]int{{}}}, -1, api.OK)
	wantCheck(t, instance{}, api.Tree{Bags: [][]int{nil, {}, nil}, Links: [][2]int{{0, 2}, {2, 1}}}, -1, api.OK)
	wantCheck(t, instance{}, api.Tree{}, 0, api.ErrAnswer)
	wantCheck(t, instance{}, api.Tree{Bags: [][]int{{}, {}}}, 0, api.ErrAnswer)
	wantCheck(t, instance{}, api.Tree{Bags: [][]int{{0}}}, 0, api.ErrAnswer)
}

// P7.1: there may be 64 bags, and no more.
func TestManyBags(t *testing.T) {
	for _, c := range []struct {
		bags, width int
		errno       api.Errno
	}{{api.MaxBags, 1, api.OK}, {api.MaxBags + 1, 0, api.ErrAnswer}, {100000, 0, api.ErrAnswer}} {
		x, star := api.Tree{Bags: [][]int{{0, 1}}}, api.Tree{Bags: [][]int{{0, 1}}}
		for i := 1; i < c.bags; i++ {
			x.Bags = append(x.Bags, []int{0, 1})
			star.Bags = append(star.Bags, []int{i % 2})
			x.Links = append(x.Links, [2]int{i - 1, i})
			star.Links = append(star.Links, [2]int{i, 0})
		}
		wantCheck(t, path(2), x, c.width, c.errno)
		wantCheck(t, path(2), star, c.width, c.errno)
		x.Bags[30] = []int{1}
		wantCheck(t, path(2), x, 0, api.ErrAnswer)
	}
	long := make([]int, 100000)
	for i := range long {
		long[i] = i
	}
	wantCheck(t, path(3), api.Tree{Bags: [][]int{long}}, 0, api.ErrAnswer)
	wantCheck(t, path(3), api.Tree{Bags: [][]int{{0, 1, 2}}, Links: make([][2]int, 100000)}, 0, api.ErrAnswer)
}

// P7.1: right decompositions that are changed somewhere are right just if the definition says so.
func TestCheckChanged(t *testing.T) {
	random := rand.New(rand.NewSource(3))
	right, wrong := 0, 0
	for range 1500 {
		g := someGraph(random, 1+random.Intn(api.MaxSmall), random.Float64())
		x, _ := decompose(t, g)
		for range 20 {
			if wantPlainCheck(t, g, changed(random, x)) {
				right++
			} else {
				wrong++
			}
		}
	}
	if right < 1000 || wrong < 1000 {
		t.Errorf("%d right, %d wrong", right, wrong)
	}
}

// changed returns the tree with something else in one place, and often in more.
func changed(random *rand.Rand, x api.Tree) api.Tree {
	y := copied(x)
	i, v := random.Intn(len(y.Bags)), random.Intn(api.MaxSmall)
	switch random.Intn(6) {
	case 0:
		if at, ok := slices.BinarySearch(y.Bags[i], v); !ok {
			y.Bags[i] = slices.Insert(y.Bags[i], at, v)
		}
	case 1:
		y.Bags[i] = slices.DeleteFunc(y.Bags[i], func(u int) bool { return u == v })
	case 2:
		at := len(y.Bags)
		y.Bags = append(y.Bags, slices.Clone(y.Bags[i]))
		y.Links = append(y.Links, [2]int{at, random.Intn(at)})
	case 3:
		if len(y.Links) > 0 {
			y.Links[random.Intn(len(y.Links))][random.Intn(2)] = random.Intn(len(y.Bags))
		}
	case 4:
		j := random.Intn(len(y.Bags))
		y.Bags[i], y.Bags[j] = y.Bags[j], y.Bags[i]
	case 5:
		if n := len(y.Bags[i]); n > 1 {
			j := random.Intn(n)
			y.Bags[i][0], y.Bags[i][j] = y.Bags[i][j], y.Bags[i][0]
		}
	}
	if random.Intn(2) == 0 {
		return changed(random, y)
	}
	return y
}

// P7.1, P7.2, P7.3: what is not a graph, or too large, is an error, which comes first; with it, all else is zero.
func TestNotGraphs(t *testing.T) {
	for _, g := range notGraphs() {
		x, w, e := tree.Decompose(g.n, g.edges)
		if len(x.Bags) != 0 || len(x.Links) != 0 || w != 0 || e != api.ErrArg {
			t.Errorf("Decompose(%d, %v) = %v, %d, %d", g.n, g.edges, x, w, e)
		}
		for _, x := range []api.Tree{{}, {Bags: [][]int{{}}}, {Bags: [][]int{{0}}}, {Bags: [][]int{{0, 1, 2}}}} {
			wantCheck(t, g, x, 0, api.ErrArg)
		}
		for _, order := range [][]int{nil, {0}, {0, 1, 2}, {0, 0}} {
			wantOrder(t, g, order, 0, api.ErrArg)
		}
		for _, k := range []int{-1, 0, 3, 9} {
			wantColour(t, g, k, 0, api.ErrArg)
		}
		if l, e := tree.Best(g.n, g.edges); len(l) != 0 || e != api.ErrArg {
			t.Errorf("Best(%d, %v) = %v, %d", g.n, g.edges, l, e)
		}
		if n, m, e := tree.Apart(g.n, g.edges); n != 0 || m != 0 || e != api.ErrArg {
			t.Errorf("Apart(%d, %v) = %d, %d, %d", g.n, g.edges, n, m, e)
		}
		if l, e := tree.Clique(g.n, g.edges); len(l) != 0 || e != api.ErrArg {
			t.Errorf("Clique(%d, %v) = %v, %d", g.n, g.edges, l, e)
		}
	}
}

// P2, and rule 5: the arguments stay as they are, results are new memory, and the same each time.
func TestMemory(t *testing.T) {
	random := rand.New(rand.NewSource(4))
	for range 100 {
		g := someGraph(random, random.Intn(api.MaxSmall+1), random.Float64())
		edges := slices.Clone(g.edges)
		order := random.Perm(g.n)
		given := slices.Clone(order)
		x, w := decompose(t, g)
		kept := copied(x)
		best, _ := tree.Best(g.n, g.edges)
		keptBest := slices.Clone(best)
		clique, _ := tree.Clique(g.n, g.edges)
		keptClique := slices.Clone(clique)
		tree.Order(g.n, g.edges, order)
		tree.Colour(g.n, g.edges, 4)
		tree.Apart(g.n, g.edges)
		wantCheck(t, g, x, w, api.OK)
		if !slices.Equal(edges, g.edges) || !slices.Equal(given, order) || !isSame(x, kept) {
			t.Fatalf("%v became %v, %v became %v, %v became %v", edges, g.edges, given, order, kept, x)
		}
		for i, bag := range x.Bags {
			x.Bags[i] = append(bag, -7)
			for j := range bag {
				x.Bags[i][j] = -7
			}
			if i+1 < len(x.Bags) && !slices.Equal(x.Bags[i+1], kept.Bags[i+1]) {
				t.Fatalf("bags of %v share memory", kept)
			}
		}
		for _, list := range [][]int{best, clique} {
			for i := range list {
				list[i] = -7
			}
		}
		if again, _ := decompose(t, g); !isSame(again, kept) {
			t.Errorf("Decompose(%d, %v) = %v, and %v", g.n, g.edges, kept, again)
		}
		wantBest(t, g, keptBest)
		wantClique(t, g, keptClique)
	}
}

func copied(x api.Tree) api.Tree {
	y := api.Tree{Links: slices.Clone(x.Links)}
	for _, bag := range x.Bags {
		y.Bags = append(y.Bags, slices.Clone(bag))
	}
	return y
}

func isSame(x, y api.Tree) bool {
	return slices.EqualFunc(x.Bags, y.Bags, slices.Equal) && slices.Equal(x.Links, y.Links)
}
