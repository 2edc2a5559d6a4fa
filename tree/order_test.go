package tree_test

import (
	"math"
	"math/rand"
	"slices"
	"testing"

	"olivette/api"
	"olivette/tree"
)

// P7.2: the orders of all small graphs have the widths of the definition.
func TestAllOrders(t *testing.T) {
	for n := range 5 {
		allGraphs(n, func(g instance) {
			allOrders(n, func(order []int) bool {
				wantOrder(t, g, order, plainOrder(g, order), api.OK)
				return true
			})
		})
	}
}

// P7.2: orders of graphs of all sizes.
func TestSomeOrders(t *testing.T) {
	random := rand.New(rand.NewSource(5))
	for range 4000 {
		g := shuffled(random, someGraph(random, random.Intn(api.MaxSmall+1), random.Float64()))
		order := random.Perm(g.n)
		wantOrder(t, g, order, plainOrder(g, order), api.OK)
	}
	star := parts(1, 13)
	wantOrder(t, star, []int{0, 1, 2, 3, 4, 5, 6, 7, 8, 9, 10, 11, 12, 13}, 13, api.OK)
	wantOrder(t, star, []int{13, 12, 11, 10, 9, 8, 7, 6, 5, 4, 3, 2, 1, 0}, 1, api.OK)
	wantOrder(t, star, []int{1, 2, 3, 4, 5, 6, 7, 0, 8, 9, 10, 11, 12, 13}, 6, api.OK)
	wantOrder(t, instance{n: 3}, []int{2, 0, 1}, 0, api.OK)
	wantOrder(t, instance{}, nil, -1, api.OK)
	wantOrder(t, instance{}, []int{}, -1, api.OK)
}

// P7.2: an order has each vertex once.
func TestNoOrder(t *testing.T) {
	for _, bad := range []int{-1, -2, 0, 1, 3, 4, 14, 31, 32, 63, 64, 1 << 32, 1<<32 + 2, math.MaxInt, math.MinInt} {
		wantOrder(t, path(3), []int{0, 1, bad}, 0, api.ErrArg)
		wantOrder(t, path(3), []int{1, 0, bad}, 0, api.ErrArg)
		wantOrder(t, path(3), []int{0, 1, 2, bad}, 0, api.ErrArg)
		wantOrder(t, path(3), []int{bad}, 0, api.ErrArg)
		wantOrder(t, instance{}, []int{bad}, 0, api.ErrArg)
	}
	for _, order := range [][]int{nil, {}, {0}, {0, 1}, {2, 1}, {0, 0, 0}, {0, 1, 1}, {2, 2, 1}, {0, 1, 2, 0}, make([]int, 100000)} {
		wantOrder(t, path(3), order, 0, api.ErrArg)
	}
}

// P7.2: Best of all small graphs, and of some with up to seven vertices.
func TestBestOfAll(t *testing.T) {
	for n := range 6 {
		allGraphs(n, func(g instance) { wantBest(t, g, plainBest(g)) })
	}
	random := rand.New(rand.NewSource(6))
	for range 60 {
		for n := 6; n <= 7; n++ {
			g := shuffled(random, someGraph(random, n, random.Float64()))
			wantBest(t, g, plainBest(g))
		}
	}
}

// P7.2: Best of graphs of all sizes: no lesser vertex at any place can lead to an order of the width.
func TestBestIsLeast(t *testing.T) {
	random := rand.New(rand.NewSource(7))
	graphs := []instance{petersen(), heawood(), grid(4, 3), cube(3), prism(5), prism(7), parts(2, 5, 7), around(14, 1, 2), around(13, 1, 5)}
	for range 8 {
		graphs = append(graphs, someGraph(random, 8+random.Intn(7), 0.1+0.6*random.Float64()))
	}
	for _, g := range graphs {
		g = shuffled(random, g)
		order, e := tree.Best(g.n, g.edges)
		known := map[int]int{}
		table, gone := joinedTo(g), 0
		width := narrowest(table, 0, known)
		if e != api.OK || len(order) != g.n || plainOrder(g, order) != width {
			t.Fatalf("Best(%d, %v) = %v, %d; width %d", g.n, g.edges, order, e, width)
		}
		for _, v := range order {
			for u := range v {
				if gone>>u&1 == 0 && widthFrom(table, gone, u, known) <= width {
					t.Errorf("Best(%d, %v) = %v, but with %d instead of %d", g.n, g.edges, order, u, v)
				}
			}
			remove(table, v)
			gone |= 1 << v
		}
	}
}

// widthFrom returns the least width of removing v and then all the rest.
func widthFrom(table [][]bool, gone, v int, known map[int]int) int {
	left := make([][]bool, len(table))
	for u := range table {
		left[u] = slices.Clone(table[u])
	}
	w := remove(left, v)
	return max(w, narrowest(left, gone|1<<v, known))
}

// P7.2: orders that are known.
func TestKnownBest(t *testing.T) {
	all := []int{0, 1, 2, 3, 4, 5, 6, 7, 8, 9, 10, 11, 12, 13}
	wantBest(t, instance{}, nil)
	wantBest(t, instance{n: 14}, all)
	wantBest(t, complete(14), all)
	wantBest(t, circle(14), all)
	wantBest(t, path(14), all)
	wantBest(t, parts(1, 3), []int{1, 2, 0, 3})
	wantBest(t, parts(1, 13), []int{1, 2, 3, 4, 5, 6, 7, 8, 9, 10, 11, 12, 0, 13})
	wantBest(t, parts(3, 1), []int{0, 1, 2, 3})
	wantBest(t, instance{3, [][2]int{{1, 0}, {0, 2}}}, []int{1, 0, 2})
	// The width is 2 for one part, so that in the other one no order is too wide.
	wantBest(t, instance{7, [][2]int{{0, 1}, {0, 2}, {0, 3}, {4, 5}, {5, 6}, {4, 6}}}, []int{1, 0, 2, 3, 4, 5, 6})
}
