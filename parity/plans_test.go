package parity_test

import (
	"math"
	"math/rand"
	"slices"
	"testing"

	"olivette/api"
	"olivette/parity"
)

// P8.2: the attractors of all sets, in all games of up to three positions and in random ones, are what the definition says.
func TestAttractByDefinition(t *testing.T) {
	list := smallGames(21, 500)
	random := rand.New(rand.NewSource(22))
	for range 20 {
		list = append(list, someGame(random, 6+random.Intn(3), 2, 0.3))
	}
	for n := 1; n <= 3; n++ {
		allGames(n, 1, func(g api.Game) { list = append(list, g) })
	}
	for _, g := range list {
		for set := range 1 << len(g.Owner) {
			for player := range 2 {
				wantAttract(t, g, player, listOf(set), listOf(plainAttract(g, player, set)), api.OK)
			}
		}
	}
}

// P8.2: attractors in games of all sizes are made step by step, from small sets too.
func TestAttractBySteps(t *testing.T) {
	random := rand.New(rand.NewSource(23))
	greater := 0
	for _, g := range gamesOfAllKinds(24) {
		for _, set := range []int{0, 1 << random.Intn(len(g.Owner)), random.Intn(1 << len(g.Owner))} {
			player, all := random.Intn(2), set
			for range g.Owner {
				all |= drawn(g, player, all)
			}
			if all != set {
				greater++
			}
			wantAttract(t, g, player, listOf(set), listOf(all), api.OK)
		}
	}
	if greater < 300 {
		t.Errorf("%d attractors are greater than their sets", greater)
	}
}

// P8.2: an attractor may need as many steps as there are other positions, in either direction.
func TestAttractLine(t *testing.T) {
	last := api.MaxPositions - 1
	up, down := circle(0, make([]int, last+1)), circle(0, make([]int, last+1))
	for v := range last + 1 {
		up.Owner[v], up.Next[v] = v%2, []int{min(v+1, last)}
		down.Owner[v], down.Next[v] = v%2, []int{max(v-1, 0)}
	}
	for player := range 2 {
		wantAttract(t, up, player, []int{last}, numbers(last+1), api.OK)
		wantAttract(t, up, player, []int{0}, []int{0}, api.OK)
		wantAttract(t, down, player, []int{0}, numbers(last+1), api.OK)
		wantAttract(t, down, player, []int{last}, []int{last}, api.OK)
	}
}

// P8.2: a player who is none, and a set that is not of ascending positions, are errors.
func TestAttractErrors(t *testing.T) {
	g := circle(0, make([]int, 4))
	wantAttract(t, g, 0, nil, nil, api.OK)
	wantAttract(t, g, 1, []int{}, nil, api.OK)
	wantAttract(t, g, 1, []int{0, 1, 2, 3}, numbers(4), api.OK)
	for _, player := range []int{-1, 2, math.MaxInt, math.MinInt} {
		wantAttract(t, g, player, []int{0}, nil, api.ErrArg)
	}
	for _, set := range [][]int{{-1}, {4}, {math.MaxInt}, {math.MinInt}, {1, 0}, {0, 0}, {0, 2, 1}, {0, 1, 1}, {0, 1, 4}, {0, 1, 2, 3, 4}, {-1, 0}, make([]int, 100000)} {
		wantAttract(t, g, 0, set, nil, api.ErrArg)
	}
}

// P8.2: plays of all plans of small games, and of random ones of larger games, from all positions.
func TestPlays(t *testing.T) {
	for _, g := range smallGames(25, 300) {
		allChoices(g.Next, func(plan []int) {
			for from := range g.Owner {
				way, loop, winner := plainPlay(g, from, plan)
				wantPlay(t, g, from, plan, way, loop, winner, api.OK)
			}
		})
	}
	random := rand.New(rand.NewSource(26))
	for _, g := range gamesOfAllKinds(27) {
		plan := make([]int, len(g.Owner))
		for v, next := range g.Next {
			plan[v] = next[random.Intn(len(next))]
		}
		for from := range g.Owner {
			way, loop, winner := plainPlay(g, from, plan)
			wantPlay(t, g, from, plan, way, loop, winner, api.OK)
		}
	}
}

// P8.2: known plays; only the ranks of what comes again count.
func TestKnownPlays(t *testing.T) {
	g := api.Game{Owner: []int{0, 1, 1}, Rank: []int{1, 2, 9}, Next: [][]int{{0, 1}, {0}, {1, 2}}}
	wantPlay(t, g, 2, []int{1, 0, 1}, []int{2}, []int{1, 0}, 0, api.OK)
	wantPlay(t, g, 2, []int{0, 0, 1}, []int{2, 1}, []int{0}, 1, api.OK)
	wantPlay(t, g, 2, []int{0, 0, 2}, nil, []int{2}, 1, api.OK)
	wantPlay(t, g, 0, []int{1, 0, 2}, nil, []int{0, 1}, 0, api.OK)
	wantPlay(t, g, 1, []int{1, 0, 2}, nil, []int{1, 0}, 0, api.OK)
	around := slices.Repeat([]int{3}, api.MaxPositions)
	long := circle(1, around)
	around[5] = 4
	wantPlay(t, long, 0, append(numbers(api.MaxPositions)[1:], 0), nil, numbers(api.MaxPositions), 0, api.OK)
	wantPlay(t, long, 0, append(numbers(api.MaxPositions)[1:], api.MaxPositions-1), numbers(api.MaxPositions-1), []int{api.MaxPositions - 1}, 1, api.OK)
}

// P8.2: what is no position, and a plan that has not one of its Next for every position, are errors.
func TestPlayErrors(t *testing.T) {
	g := api.Game{Owner: []int{0, 1}, Rank: []int{1, 2}, Next: [][]int{{0, 1}, {0}}}
	for _, from := range []int{-1, 2, math.MaxInt, math.MinInt} {
		wantPlay(t, g, from, []int{0, 0}, nil, nil, 0, api.ErrArg)
	}
	for _, plan := range [][]int{nil, {}, {0}, {0, 0, 0}, {0, 1}, {2, 0}, {-1, 0}, {0, -1}, {1, math.MaxInt}, {math.MinInt, 0}, make([]int, 100000)} {
		for from := range 2 {
			wantPlay(t, g, from, plan, nil, nil, 0, api.ErrArg)
		}
	}
}

// P8.3: all plans of both players in small games beat just where they win against all plans of the other one.
func TestBeatsByPlans(t *testing.T) {
	list := smallGames(28, 500)
	for n, ranks := range []int{0, 10, 4} {
		if n > 0 {
			allGames(n, ranks, func(g api.Game) { list = append(list, g) })
		}
	}
	beaten := 0
	for _, g := range list {
		for player := range 2 {
			allChoices(choicesOf(g, player), func(plan []int) {
				wins := winsAll(g, player, plan)
				want := where(len(wins), func(v int) bool { return wins[v] })
				beaten += len(want)
				wantBeats(t, g, player, plan, want, api.OK)
			})
		}
	}
	if beaten < 2000 {
		t.Errorf("%d positions are beaten", beaten)
	}
}

// P8.3: in games of all sizes random plans beat where no walk comes back with a wrong rank; the numbers at other positions are any.
func TestBeatsByWalks(t *testing.T) {
	random := rand.New(rand.NewSource(29))
	for _, g := range gamesOfAllKinds(30) {
		for player := range 2 {
			plan := somePlan(random, g, player)
			table := walks(g.Rank, nextByPlan(g, player, plan))
			want := where(len(plan), func(v int) bool { return plainBeats(table, v, player) })
			wantBeats(t, g, player, plan, want, api.OK)
		}
	}
}

// P8.3: a player who is none, and what is no plan for the player, are errors.
func TestBeatsErrors(t *testing.T) {
	g := api.Game{Owner: []int{0, 1, 0}, Rank: []int{1, 2, 0}, Next: [][]int{{0, 1}, {0}, {2}}}
	wantBeats(t, g, 0, []int{1, 1, 2}, []int{0, 1, 2}, api.OK)
	wantBeats(t, g, 0, []int{0, math.MinInt, 2}, []int{2}, api.OK)
	wantBeats(t, g, 1, []int{-7, 0, math.MaxInt}, nil, api.OK)
	for _, player := range []int{-1, 2, math.MaxInt, math.MinInt} {
		wantBeats(t, g, player, []int{0, 0, 2}, nil, api.ErrArg)
	}
	for _, plan := range [][]int{nil, {}, {0}, {0, 0}, {0, 0, 2, 0}, {2, 0, 2}, {-1, 0, 2}, {0, 0, 0}, {0, 0, 3}, {math.MaxInt, 0, 2}, make([]int, 100000)} {
		wantBeats(t, g, 0, plan, nil, api.ErrArg)
	}
	for _, plan := range [][]int{nil, {0, 0}, {0, 1, 2}, {0, -1, 2}, {0, 2, 2}, {0, 0, 2, 0}, {0, math.MinInt, 2}} {
		wantBeats(t, g, 1, plan, nil, api.ErrArg)
	}
}

// P8.4: turned games, and games in which a rank is too great for it.
func TestTurn(t *testing.T) {
	wantTurn(t, api.Game{Owner: []int{0, 1}, Rank: []int{0, 8}, Next: [][]int{{0, 1}, {0}}},
		api.Game{Owner: []int{1, 0}, Rank: []int{1, 9}, Next: [][]int{{0, 1}, {0}}}, api.OK)
	turned, not := 0, 0
	for _, g := range gamesOfAllKinds(31) {
		if slices.Contains(g.Rank, api.MaxRank) {
			not++
			wantTurn(t, g, api.Game{}, api.ErrArg)
			continue
		}
		turned++
		want := copied(g)
		for v := range want.Owner {
			want.Owner[v] = 1 - want.Owner[v]
			want.Rank[v]++
		}
		wantTurn(t, g, want, api.OK)
	}
	if turned < 300 || not < 50 {
		t.Errorf("%d games are turned, %d not", turned, not)
	}
	for at := range 3 {
		g := circle(0, make([]int, 3))
		g.Rank[at] = api.MaxRank
		wantTurn(t, g, api.Game{}, api.ErrArg)
	}
}

// P2, and rule 5: the arguments stay as they are, results are new memory, and the same each time.
func TestMemory(t *testing.T) {
	random := rand.New(rand.NewSource(32))
	for _, g := range gamesOfAllKinds(33) {
		if slices.Contains(g.Rank, api.MaxRank) {
			continue
		}
		given, plan := copied(g), make([]int, len(g.Owner))
		for v, next := range g.Next {
			plan[v] = next[random.Intn(len(next))]
		}
		givenPlan, set := slices.Clone(plan), []int{len(plan) / 2}
		o := solve(t, g)
		kept := api.Outcome{Winner: slices.Clone(o.Winner), Move: slices.Clone(o.Move)}
		wantCheck(t, g, o, api.OK)
		turned, _ := parity.Turn(g)
		way, loop, _, _ := parity.Play(g, 0, plan)
		drawn, _ := parity.Attract(g, 0, set)
		beaten, _ := parity.Beats(g, 1, plan)
		lists := [][]int{o.Winner, o.Move, way, loop, drawn, beaten, turned.Owner, turned.Rank}
		wantApart(t, append(lists, turned.Next...))
		if !isSame(g, given) || !slices.Equal(plan, givenPlan) || set[0] != len(plan)/2 {
			t.Fatalf("%v became %v, %v became %v, %v", given, g, givenPlan, plan, set)
		}
		if again := solve(t, g); !slices.Equal(again.Winner, kept.Winner) || !slices.Equal(again.Move, kept.Move) {
			t.Errorf("Solve(%v) = %v, and %v", g, kept, again)
		}
	}
}

// wantApart overwrites each list, with what append finds behind it, and looks whether the others stay.
func wantApart(t *testing.T, lists [][]int) {
	t.Helper()
	for i, list := range lists {
		var others [][]int
		for _, other := range lists {
			others = append(others, slices.Clone(other))
		}
		all := list[:cap(list)]
		for k := range all {
			all[k] = -7
		}
		for k, other := range others {
			if k != i && !slices.Equal(other, lists[k]) {
				t.Fatalf("list %d shares memory with list %d", k, i)
			}
		}
	}
}
