package tree_test

import (
	"math"
	"math/bits"
	"math/rand"
	"slices"
	"testing"

	"olivette/api"
	"olivette/tree"
)

// instance is a graph.
type instance struct {
	n     int
	edges [][2]int
}

// where returns the graph whose edges join just those u and v, u less than v, for which this is so.
func where(n int, joined func(u, v int) bool) instance {
	g := instance{n: n}
	for u := range n {
		for v := u + 1; v < n; v++ {
			if joined(u, v) {
				g.edges = append(g.edges, [2]int{u, v})
			}
		}
	}
	return g
}

func complete(n int) instance {
	return where(n, func(u, v int) bool { return true })
}

func path(n int) instance {
	return where(n, func(u, v int) bool { return v-u == 1 })
}

func circle(n int) instance {
	return where(n, func(u, v int) bool { return v-u == 1 || v-u == n-1 })
}

// parts returns the graph of groups of such sizes, in which all vertices of different groups are joined.
func parts(sizes ...int) instance {
	var group []int
	for i, size := range sizes {
		group = append(group, slices.Repeat([]int{i}, size)...)
	}
	return where(len(group), func(u, v int) bool { return group[u] != group[v] })
}

func grid(width, height int) instance {
	return where(width*height, func(u, v int) bool {
		return v-u == width || v-u == 1 && v%width != 0
	})
}

// cube has the vertices whose numbers differ by one bit joined.
func cube(dimensions int) instance {
	return where(1<<dimensions, func(u, v int) bool { return bits.OnesCount(uint(u^v)) == 1 })
}

// around returns the graph of n vertices in a circle, joined to those at such distances.
func around(n int, distances ...int) instance {
	return where(n, func(u, v int) bool {
		return slices.Contains(distances, v-u) || slices.Contains(distances, n-v+u)
	})
}

// wheel is a circle whose vertices are all joined to the last one.
func wheel(n int) instance {
	return where(n, func(u, v int) bool { return v == n-1 || v-u == 1 || v-u == n-2 })
}

// prism is two circles of n vertices, those of one joined to those of the other.
func prism(n int) instance {
	return where(2*n, func(u, v int) bool {
		return v-u == n || u/n == v/n && (v-u == 1 || v-u == n-1)
	})
}

// petersen has the pairs of five as its vertices, joined if they have nothing in common.
func petersen() instance {
	var pairs []int
	for pair := range 32 {
		if bits.OnesCount(uint(pair)) == 2 {
			pairs = append(pairs, pair)
		}
	}
	return where(10, func(u, v int) bool { return pairs[u]&pairs[v] == 0 })
}

// heawood has seven points and seven lines, joined where they meet.
func heawood() instance {
	return where(14, func(u, v int) bool {
		return u < 7 && v >= 7 && slices.Contains([]int{0, 1, 3}, (u-v+14)%7)
	})
}

func someGraph(random *rand.Rand, n int, chance float64) instance {
	return where(n, func(u, v int) bool { return random.Float64() < chance })
}

// allGraphs calls do with all graphs of n vertices.
func allGraphs(n int, do func(g instance)) {
	pairs := complete(n).edges
	for set := range 1 << len(pairs) {
		at := -1
		do(where(n, func(u, v int) bool {
			at++
			return set>>at&1 == 1
		}))
	}
}

// shuffled returns the graph with its vertices numbered otherwise, its edges in any order and direction.
func shuffled(random *rand.Rand, g instance) instance {
	number := random.Perm(g.n)
	list := make([][2]int, len(g.edges))
	for i, at := range random.Perm(len(g.edges)) {
		ends := random.Perm(2)
		list[i] = [2]int{number[g.edges[at][ends[0]]], number[g.edges[at][ends[1]]]}
	}
	return instance{g.n, list}
}

// withoutEdge returns the graph without the edge at the position.
func withoutEdge(g instance, at int) instance {
	return instance{g.n, slices.Delete(slices.Clone(g.edges), at, at+1)}
}

// mapped returns the graph of n vertices in which vertices have other numbers, without what is no edge any more, or is one twice; vertices with the number -1 are removed.
func mapped(g instance, n int, number []int) instance {
	h := instance{n: n}
	for _, e := range g.edges {
		u, v := number[e[0]], number[e[1]]
		u, v = min(u, v), max(u, v)
		if u >= 0 && u != v && !slices.Contains(h.edges, [2]int{u, v}) {
			h.edges = append(h.edges, [2]int{u, v})
		}
	}
	return h
}

// numbersWithout numbers n vertices, of which v has the number in its place.
func numbersWithout(n, v, instead int) []int {
	var number []int
	for u := range n {
		switch {
		case u < v:
			number = append(number, u)
		case u == v:
			number = append(number, instead)
		default:
			number = append(number, u-1)
		}
	}
	return number
}

// joinedTo is the table of neighbors.
func joinedTo(g instance) [][]bool {
	table := make([][]bool, g.n)
	for v := range table {
		table[v] = make([]bool, g.n)
	}
	for _, e := range g.edges {
		table[e[0]][e[1]], table[e[1]][e[0]] = true, true
	}
	return table
}

// remove joins the neighbors of v that are left, removes v, and returns how many there were.
func remove(table [][]bool, v int) int {
	var list []int
	for u := range table {
		if table[v][u] {
			list = append(list, u)
			table[v][u], table[u][v] = false, false
		}
	}
	for _, u := range list {
		for _, w := range list {
			table[u][w] = u != w
		}
	}
	return len(list)
}

// plainOrder follows the definition.
func plainOrder(g instance, order []int) int {
	table, width := joinedTo(g), -1
	for _, v := range order {
		width = max(width, remove(table, v))
	}
	return width
}

// allOrders visits all orders in lexicographic order, until visit returns false.
func allOrders(n int, visit func(order []int) bool) {
	var extend func(order []int) bool
	extend = func(order []int) bool {
		if len(order) == n {
			return visit(order)
		}
		for v := range n {
			if !slices.Contains(order, v) && !extend(append(order, v)) {
				return false
			}
		}
		return true
	}
	extend(nil)
}

// plainBest tries all orders.
func plainBest(g instance) []int {
	var best []int
	width := g.n
	allOrders(g.n, func(order []int) bool {
		if w := plainOrder(g, order); w < width {
			width, best = w, slices.Clone(order)
		}
		return true
	})
	return best
}

// narrowest returns the least width that removing all vertices but those in gone can have, when these are gone, by known results.
func narrowest(table [][]bool, gone int, known map[int]int) int {
	if w, ok := known[gone]; ok {
		return w
	}
	least := len(table)
	if gone == 1<<len(table)-1 {
		least = -1
	}
	for v := range table {
		if gone>>v&1 == 0 {
			left := make([][]bool, len(table))
			for u := range table {
				left[u] = slices.Clone(table[u])
			}
			w := remove(left, v)
			least = min(least, max(w, narrowest(left, gone|1<<v, known)))
		}
	}
	known[gone] = least
	return least
}

// isPlainRight follows the definition.
func isPlainRight(g instance, t api.Tree) bool {
	if len(t.Bags) < 1 || len(t.Bags) > api.MaxBags || len(t.Links) != len(t.Bags)-1 {
		return false
	}
	for _, bag := range t.Bags {
		for i, v := range bag {
			if v < 0 || v >= g.n || i > 0 && v <= bag[i-1] {
				return false
			}
		}
	}
	for _, l := range t.Links {
		for _, i := range l {
			if i < 0 || i >= len(t.Bags) {
				return false
			}
		}
		if l[0] == l[1] {
			return false
		}
	}
	for _, e := range g.edges {
		if !slices.ContainsFunc(t.Bags, func(bag []int) bool { return slices.Contains(bag, e[0]) && slices.Contains(bag, e[1]) }) {
			return false
		}
	}
	for v := range g.n {
		if groupsOf(t, func(bag []int) bool { return slices.Contains(bag, v) }) != 1 {
			return false
		}
	}
	return groupsOf(t, func(bag []int) bool { return true }) == 1
}

// groupsOf numbers the bags that count by carrying the least positions along the links between them, and returns how many numbers there are.
func groupsOf(t api.Tree, counts func(bag []int) bool) int {
	number := map[int]int{}
	for i, bag := range t.Bags {
		if counts(bag) {
			number[i] = i
		}
	}
	for range t.Bags {
		for _, l := range t.Links {
			a, one := number[l[0]]
			b, other := number[l[1]]
			if one && other {
				number[l[0]], number[l[1]] = min(a, b), min(a, b)
			}
		}
	}
	groups := 0
	for i, least := range number {
		if i == least {
			groups++
		}
	}
	return groups
}

func plainWidth(t api.Tree) int {
	width := -1
	for _, bag := range t.Bags {
		width = max(width, len(bag)-1)
	}
	return width
}

// plainColour divides all vertices into groups of vertices that are not joined, of which the first one has the first vertex, and gives colours to the groups.
func plainColour(g instance, k int) int {
	near := make([]int, g.n)
	for _, e := range g.edges {
		near[e[0]] |= 1 << e[1]
		near[e[1]] |= 1 << e[0]
	}
	apart := make([]bool, 1<<g.n)
	for set := range apart {
		apart[set] = true
		for v := range g.n {
			apart[set] = apart[set] && (set>>v&1 == 0 || near[v]&set == 0)
		}
	}
	known := make([]map[int]int, 1<<g.n)
	var colour func(left, k int) int
	colour = func(left, k int) int {
		if left == 0 || k == 0 {
			return 1 - min(left, 1)
		}
		if known[left] == nil {
			known[left] = map[int]int{}
		}
		if sum, ok := known[left][k]; ok {
			return sum
		}
		first := left & -left
		rest, sum := left-first, 0
		for group := rest; ; group = (group - 1) & rest {
			if apart[group|first] {
				sum += k * colour(rest&^group, k-1)
			}
			if group == 0 {
				break
			}
		}
		known[left][k] = sum
		return sum
	}
	return colour(1<<g.n-1, k)
}

// triedColours tries all ways of giving colours.
func triedColours(g instance, k int) int {
	count := 0
	colours := make([]int, g.n)
	var give func(v int)
	give = func(v int) {
		if v == g.n {
			if !slices.ContainsFunc(g.edges, func(e [2]int) bool { return colours[e[0]] == colours[e[1]] }) {
				count++
			}
			return
		}
		for colours[v] = range k {
			give(v + 1)
		}
	}
	give(0)
	return count
}

// members returns the places of the bits.
func members(set int) []int {
	var list []int
	for v := range 64 {
		if set>>v&1 == 1 {
			list = append(list, v)
		}
	}
	return list
}

// plainSets tries all sets: it returns how many have no neighbors, the greatest size of these, and the clique.
func plainSets(g instance) (int, int, []int) {
	number, size := 0, 0
	var clique []int
	for set := range 1 << g.n {
		list, inside := members(set), 0
		for _, e := range g.edges {
			inside += set >> e[0] & (set >> e[1]) & 1
		}
		if inside == 0 {
			number++
			size = max(size, len(list))
		}
		if inside == len(list)*(len(list)-1)/2 && (len(list) > len(clique) || len(list) == len(clique) && slices.Compare(list, clique) < 0) {
			clique = list
		}
	}
	return number, size, clique
}

// decompose returns what Decompose returns, after it has been found right, and its arguments unchanged.
func decompose(t *testing.T, g instance) (api.Tree, int) {
	t.Helper()
	before := slices.Clone(g.edges)
	x, w, e := tree.Decompose(g.n, g.edges)
	if e != api.OK || !isPlainRight(g, x) || plainWidth(x) != w {
		t.Fatalf("Decompose(%d, %v) = %v, %d, %d", g.n, g.edges, x, w, e)
	}
	if !slices.Equal(before, g.edges) {
		t.Fatalf("%v became %v", before, g.edges)
	}
	wantCheck(t, g, x, w, api.OK)
	return x, w
}

func wantCheck(t *testing.T, g instance, x api.Tree, width int, errno api.Errno) {
	t.Helper()
	if w, e := tree.Check(g.n, g.edges, x); w != width || e != errno {
		t.Errorf("Check(%d, %v, %v) = %d, %d; want %d, %d", g.n, g.edges, x, w, e, width, errno)
	}
}

// wantPlainCheck wants what the definition says.
func wantPlainCheck(t *testing.T, g instance, x api.Tree) bool {
	t.Helper()
	if isPlainRight(g, x) {
		wantCheck(t, g, x, plainWidth(x), api.OK)
		return true
	}
	wantCheck(t, g, x, 0, api.ErrAnswer)
	return false
}

func wantWidth(t *testing.T, g instance, width int) {
	t.Helper()
	if _, w := decompose(t, g); w != width {
		t.Errorf("Decompose(%d, %v): %d; want %d", g.n, g.edges, w, width)
	}
}

func wantOrder(t *testing.T, g instance, order []int, width int, errno api.Errno) {
	t.Helper()
	if w, e := tree.Order(g.n, g.edges, order); w != width || e != errno {
		t.Errorf("Order(%d, %v, %v) = %d, %d; want %d, %d", g.n, g.edges, order, w, e, width, errno)
	}
}

func wantBest(t *testing.T, g instance, order []int) {
	t.Helper()
	if l, e := tree.Best(g.n, g.edges); e != api.OK || !slices.Equal(l, order) {
		t.Errorf("Best(%d, %v) = %v, %d; want %v", g.n, g.edges, l, e, order)
	}
}

func wantColour(t *testing.T, g instance, k, number int, errno api.Errno) {
	t.Helper()
	if n, e := tree.Colour(g.n, g.edges, k); n != number || e != errno {
		t.Errorf("Colour(%d, %v, %d) = %d, %d; want %d, %d", g.n, g.edges, k, n, e, number, errno)
	}
}

func wantApart(t *testing.T, g instance, number, size int) {
	t.Helper()
	if n, m, e := tree.Apart(g.n, g.edges); n != number || m != size || e != api.OK {
		t.Errorf("Apart(%d, %v) = %d, %d, %d; want %d, %d", g.n, g.edges, n, m, e, number, size)
	}
}

func wantClique(t *testing.T, g instance, list []int) {
	t.Helper()
	if l, e := tree.Clique(g.n, g.edges); e != api.OK || !slices.Equal(l, list) {
		t.Errorf("Clique(%d, %v) = %v, %d; want %v", g.n, g.edges, l, e, list)
	}
}

// notGraphs are arguments that are not a graph, or too large.
func notGraphs() []instance {
	list := []instance{
		{-1, nil}, {math.MinInt, nil}, {api.MaxSmall + 1, nil}, {16, nil}, {24, nil}, {33, nil}, {math.MaxInt, nil},
		{-1, [][2]int{{0, 1}}}, {15, [][2]int{{0, 1}}}, {16, [][2]int{{0, 15}}}, {0, [][2]int{{0, 0}}}, {0, [][2]int{{0, 1}}}, {1, [][2]int{{0, 0}}}, {1, [][2]int{{0, 1}}},
		{3, [][2]int{{1, 1}}}, {3, [][2]int{{0, 1}, {2, 2}}}, {3, [][2]int{{0, 1}, {0, 1}}}, {3, [][2]int{{0, 1}, {1, 2}, {1, 0}}},
		{14, complete(15).edges}, {14, append(complete(14).edges, [2]int{3, 7})}, {14, make([][2]int, 100000)}, {2, slices.Repeat([][2]int{{0, 1}}, 101)},
	}
	for _, bad := range []int{-1, -2, 3, 4, 14, 15, 16, 31, 32, 33, 63, 64, 1 << 32, 1<<32 + 2, math.MaxInt, math.MinInt} {
		list = append(list, instance{3, [][2]int{{bad, 0}}}, instance{3, [][2]int{{0, bad}}}, instance{3, [][2]int{{0, 1}, {1, bad}}}, instance{3, [][2]int{{bad, bad}}})
	}
	return list
}
