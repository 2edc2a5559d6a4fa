package tree_test

import (
	"math"
	"math/rand"
	"testing"

	"olivette/api"
)

// P7.3: colourings of all small graphs, tried one by one.
func TestAllColourings(t *testing.T) {
	for n := range 5 {
		allGraphs(n, func(g instance) {
			for k := range 5 {
				wantColour(t, g, k, triedColours(g, k), api.OK)
			}
		})
	}
	random := rand.New(rand.NewSource(8))
	for range 10 {
		g := shuffled(random, someGraph(random, 5, random.Float64()))
		for k := range 9 {
			wantColour(t, g, k, triedColours(g, k), api.OK)
		}
	}
}

// P7.3: colourings of graphs of all sizes, counted by groups.
func TestSomeColourings(t *testing.T) {
	random := rand.New(rand.NewSource(9))
	for range 1200 {
		g := shuffled(random, someGraph(random, random.Intn(11), random.Float64()))
		k := random.Intn(9)
		wantColour(t, g, k, plainColour(g, k), api.OK)
	}
	for range 60 {
		g := someGraph(random, 11+random.Intn(4), random.Float64())
		k := 3 + random.Intn(6)
		wantColour(t, g, k, plainColour(g, k), api.OK)
	}
}

// power returns a^n.
func power(a, n int) int {
	p := 1
	for range n {
		p *= a
	}
	return p
}

// P7.3: numbers of colourings that are known, for each k.
func TestKnownColourings(t *testing.T) {
	for k := range 9 {
		falling := 1
		for n := range api.MaxSmall + 1 {
			wantColour(t, instance{n: n}, k, power(k, n), api.OK)
			wantColour(t, complete(n), k, falling, api.OK)
			falling *= max(0, k-n)
			if n > 0 {
				wantColour(t, path(n), k, k*power(k-1, n-1), api.OK)
				wantColour(t, parts(1, n-1), k, k*power(k-1, n-1), api.OK)
			}
			if n > 2 {
				wantColour(t, circle(n), k, power(k-1, n)+power(-1, n)*(k-1), api.OK)
			}
		}
		wantColour(t, parts(2, 12), k, k*power(k-1, 12)+k*(k-1)*power(max(0, k-2), 12), api.OK)
		seven := power(k, 7) - 12*power(k, 6) + 67*power(k, 5) - 230*power(k, 4) + 529*power(k, 3) - 814*k*k + 775*k - 352
		wantColour(t, petersen(), k, k*(k-1)*(k-2)*seven, api.OK)
	}
	wantColour(t, instance{n: 14}, 8, 1<<42, api.OK)
	wantColour(t, parts(2, 2, 2, 2, 2, 2, 2), 7, 5040, api.OK)
	wantColour(t, parts(2, 2, 2, 2, 2, 2, 2), 6, 0, api.OK)
	wantColour(t, complete(9), 8, 0, api.OK)
	wantColour(t, complete(8), 8, 40320, api.OK)
	wantColour(t, instance{}, 0, 1, api.OK)
	wantColour(t, instance{n: 1}, 0, 0, api.OK)
	wantColour(t, instance{n: 1}, 8, 8, api.OK)
}

// P7.3: k is from 0 to 8.
func TestWrongColours(t *testing.T) {
	for _, k := range []int{-1, -2, 9, 10, 64, math.MinInt, math.MaxInt} {
		for _, g := range []instance{{}, {n: 1}, circle(5), complete(14)} {
			wantColour(t, g, k, 0, api.ErrArg)
		}
	}
}

// P7.3: sets apart and cliques, of all small graphs and of some of all sizes, by trying all sets.
func TestSets(t *testing.T) {
	check := func(g instance) {
		number, size, clique := plainSets(g)
		wantApart(t, g, number, size)
		wantClique(t, g, clique)
	}
	for n := range 6 {
		allGraphs(n, check)
	}
	random := rand.New(rand.NewSource(10))
	for range 300 {
		check(shuffled(random, someGraph(random, 6+random.Intn(5), random.Float64())))
	}
	for range 12 {
		check(shuffled(random, someGraph(random, api.MaxSmall, random.Float64())))
	}
}

// P7.3: sets that are known.
func TestKnownSets(t *testing.T) {
	wantApart(t, instance{}, 1, 0)
	wantApart(t, instance{n: 1}, 2, 1)
	wantApart(t, instance{n: 14}, 1<<14, 14)
	wantApart(t, complete(14), 15, 1)
	wantApart(t, path(14), 987, 7)
	wantApart(t, circle(14), 843, 7)
	wantApart(t, parts(7, 7), 255, 7)
	wantApart(t, parts(1, 13), 1<<13+1, 13)
	wantApart(t, petersen(), 76, 4)
	wantClique(t, instance{}, nil)
	wantClique(t, instance{n: 14}, []int{0})
	wantClique(t, path(2), []int{0, 1})
	wantClique(t, instance{4, [][2]int{{3, 2}}}, []int{2, 3})
	wantClique(t, complete(14), []int{0, 1, 2, 3, 4, 5, 6, 7, 8, 9, 10, 11, 12, 13})
	wantClique(t, parts(7, 7), []int{0, 7})
	wantClique(t, parts(2, 2, 2, 2, 2, 2, 2), []int{0, 2, 4, 6, 8, 10, 12})
	wantClique(t, circle(14), []int{0, 1})
	// Of two that are as great, the one with the lesser vertex at the first place where they differ.
	wantClique(t, instance{6, [][2]int{{1, 4}, {4, 5}, {1, 5}, {1, 2}, {2, 3}, {1, 3}, {0, 5}}}, []int{1, 2, 3})
	wantClique(t, instance{6, [][2]int{{0, 5}, {5, 4}, {0, 4}, {1, 2}, {2, 3}, {1, 3}}}, []int{0, 4, 5})
}
