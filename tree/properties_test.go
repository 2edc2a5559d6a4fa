package tree_test

import (
	"math/rand"
	"testing"

	"olivette/api"
	"olivette/tree"
)

// graphsOfAllKinds returns graphs of all sizes, thin ones and thick ones.
func graphsOfAllKinds(seed int64) []instance {
	random := rand.New(rand.NewSource(seed))
	list := []instance{petersen(), heawood(), grid(4, 3), cube(3), wheel(14), around(13, 1, 3, 4)}
	for n := range api.MaxSmall + 1 {
		for i := range 11 {
			list = append(list, shuffled(random, someGraph(random, n, float64(i)/10)))
		}
	}
	return list
}

func widthOf(g instance) int {
	_, w, _ := tree.Decompose(g.n, g.edges)
	return w
}

// P7.4: no order is narrower than the graph, and none wider than all vertices but one; Best is as narrow.
func TestBetween(t *testing.T) {
	random := rand.New(rand.NewSource(11))
	for _, g := range graphsOfAllKinds(12) {
		_, width := decompose(t, g)
		for range 50 {
			order := random.Perm(g.n)
			if w, e := tree.Order(g.n, g.edges, order); e != api.OK || w < width || w > g.n-1 {
				t.Errorf("Order(%d, %v, %v) = %d, %d; the width is %d", g.n, g.edges, order, w, e, width)
			}
		}
		best, _ := tree.Best(g.n, g.edges)
		wantOrder(t, g, best, width, api.OK)
	}
}

// P7.4: the width is at least the size of the clique minus 1.
func TestCliqueAndWidth(t *testing.T) {
	for _, g := range graphsOfAllKinds(13) {
		clique, e := tree.Clique(g.n, g.edges)
		if w := widthOf(g); e != api.OK || w < len(clique)-1 {
			t.Errorf("%d, %v: clique %v, width %d", g.n, g.edges, clique, w)
		}
	}
}

// P7.4: the width does not grow by removing an edge or a vertex.
func TestRemoving(t *testing.T) {
	for _, g := range graphsOfAllKinds(14) {
		width := widthOf(g)
		for i := range g.edges {
			if h := withoutEdge(g, i); widthOf(h) > width {
				t.Errorf("%d, %v: width %d; %d without the edge %d", g.n, g.edges, width, widthOf(h), i)
			}
		}
		for v := range g.n {
			if h := mapped(g, g.n-1, numbersWithout(g.n, v, -1)); widthOf(h) > width {
				t.Errorf("%d, %v: width %d; %d without the vertex %d", g.n, g.edges, width, widthOf(h), v)
			}
		}
	}
}

// P7.4: just the graphs without a circle have the width 1 or less; they have an edge less than vertices for each part that hangs together.
func TestNoCircle(t *testing.T) {
	random := rand.New(rand.NewSource(15))
	list := graphsOfAllKinds(16)
	for range 300 {
		n := 1 + random.Intn(api.MaxSmall)
		list = append(list, someGraph(random, n, 1.2/float64(n)))
	}
	thin := 0
	for _, g := range list {
		hasCircle := false
		group := make([]int, g.n)
		for v := range group {
			group[v] = v
		}
		for _, e := range g.edges {
			from, to := group[e[0]], group[e[1]]
			hasCircle = hasCircle || from == to
			for v := range group {
				if group[v] == from {
					group[v] = to
				}
			}
		}
		if w := widthOf(g); w <= 1 == hasCircle {
			t.Errorf("%d, %v: width %d", g.n, g.edges, w)
		} else if w == 1 {
			thin++
		}
	}
	if thin < 50 {
		t.Errorf("%d forests", thin)
	}
}

// P7.4: removing an edge, the colourings are those with the edge plus those in which its ends are one vertex.
func TestColoursWithoutEdge(t *testing.T) {
	random := rand.New(rand.NewSource(17))
	for _, g := range graphsOfAllKinds(18) {
		if len(g.edges) == 0 {
			continue
		}
		i := random.Intn(len(g.edges))
		u, v := min(g.edges[i][0], g.edges[i][1]), max(g.edges[i][0], g.edges[i][1])
		one := mapped(g, g.n-1, numbersWithout(g.n, v, u))
		for k := range 9 {
			with, _ := tree.Colour(g.n, g.edges, k)
			joined, _ := tree.Colour(one.n, one.edges, k)
			wantColour(t, withoutEdge(g, i), k, with+joined, api.OK)
		}
	}
}
