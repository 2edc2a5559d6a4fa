package parity_test

import (
	"math"
	"math/rand"
	"slices"
	"testing"

	"olivette/api"
	"olivette/parity"
)

// P8.1: the chapter's examples, and games whose winners are plain to see.
func TestKnownGames(t *testing.T) {
	for rank := range api.MaxRank + 1 {
		for owner := range 2 {
			wantWinners(t, api.Game{Owner: []int{owner}, Rank: []int{rank}, Next: [][]int{{0}}}, []int{rank % 2})
		}
	}
	g := api.Game{Owner: []int{0, 1}, Rank: []int{1, 2}, Next: [][]int{{0, 1}, {0}}}
	wantWinners(t, g, []int{0, 0})
	wantCheck(t, g, api.Outcome{Winner: []int{0, 0}, Move: []int{1, -1}}, api.OK)
	wantCheck(t, g, api.Outcome{Winner: []int{0, 0}, Move: []int{0, -1}}, api.ErrAnswer)
	g.Owner[0] = 1
	wantWinners(t, g, []int{1, 1})
	wantCheck(t, g, api.Outcome{Winner: []int{1, 1}, Move: []int{0, 0}}, api.OK)
	wantCheck(t, g, api.Outcome{Winner: []int{1, 1}, Move: []int{1, 0}}, api.ErrAnswer)

	// The rank 9 comes once, the rank 8 does not come at all where the other player turns away.
	g = api.Game{Owner: []int{0, 1, 0, 1}, Rank: []int{9, 3, 8, 4}, Next: [][]int{{1}, {2, 3}, {1}, {1, 3}}}
	wantWinners(t, g, []int{0, 0, 0, 0})
	g.Rank[3] = 5
	wantWinners(t, g, []int{1, 1, 1, 1})
	g.Owner[1] = 0
	wantWinners(t, g, []int{0, 0, 0, 1})
}

// circle returns the game of a circle with such ranks, whose positions are all the player's and have themselves as a Next too.
func circle(player int, ranks []int) api.Game {
	g := api.Game{Rank: ranks}
	for v := range ranks {
		next := []int{v, (v + 1) % len(ranks)}
		slices.Sort(next)
		g.Owner = append(g.Owner, player)
		g.Next = append(g.Next, slices.Compact(next))
	}
	return g
}

// P8.1: who moves alone stays where it wins, or goes round, whichever is needed.
func TestCircles(t *testing.T) {
	random := rand.New(rand.NewSource(1))
	for n := 1; n <= api.MaxPositions; n++ {
		for range 20 {
			ranks := make([]int, n)
			for v := range ranks {
				ranks[v] = 2*random.Intn(5) + 1
			}
			wantWinners(t, circle(0, ranks), slices.Repeat([]int{1}, n))
			ranks[random.Intn(n)]--
			wantWinners(t, circle(0, ranks), slices.Repeat([]int{0}, n))
			odd := slices.ContainsFunc(ranks, func(rank int) bool { return rank%2 == 1 })
			if odd {
				wantWinners(t, circle(1, ranks), slices.Repeat([]int{1}, n))
			}
		}
	}
}

// P8.1, P8.5: in all games of up to three positions, with few ranks, and in random ones of up to five, just one player has a plan that wins against all plans, and Solve returns it.
func TestWinnersByPlans(t *testing.T) {
	list := smallGames(2, 4000)
	for n, ranks := range []int{0, 10, 10, 3} {
		if n > 0 {
			allGames(n, ranks, func(g api.Game) { list = append(list, g) })
		}
	}
	won := [2]int{}
	for _, g := range list {
		winners := plainWinners(g)
		if slices.Contains(winners, -1) {
			t.Fatalf("%v: winners by plans %v", g, winners)
		}
		wantWinners(t, g, winners)
		for _, player := range winners {
			won[player]++
		}
	}
	if won[0] < 50000 || won[1] < 50000 {
		t.Errorf("%v positions are won", won)
	}
}

// P8.1: games of all sizes have right outcomes, and none of their positions can have the other winner.
func TestOutcomes(t *testing.T) {
	both := 0
	for _, g := range append(gamesOfAllKinds(3), gamesOfAllKinds(4)...) {
		o := solve(t, g)
		wantCheck(t, g, o, api.OK)
		if slices.Contains(o.Winner, 0) && slices.Contains(o.Winner, 1) {
			both++
		}
		for v := range o.Winner {
			o.Winner[v] = 1 - o.Winner[v]
			wantCheck(t, g, o, api.ErrAnswer)
			o.Winner[v] = 1 - o.Winner[v]
		}
	}
	if both < 200 {
		t.Errorf("%d games with positions for both players", both)
	}
}

// P8.1: in all games of two positions with three ranks, Check says of all outcomes, also of wrong ones with other numbers, what the definition says.
func TestCheckAll(t *testing.T) {
	right, games := 0, 0
	winners := [][]int{{-1, 0, 1, 2}, {-1, 0, 1, 2}}
	moves := [][]int{{-2, -1, 0, 1, 2}, {-2, -1, 0, 1, 2}}
	allGames(2, 3, func(g api.Game) {
		games++
		allChoices(winners, func(winner []int) {
			allChoices(moves, func(move []int) {
				if wantPlainCheck(t, g, api.Outcome{Winner: winner, Move: move}) {
					right++
				}
			})
		})
	})
	if right <= games {
		t.Errorf("%d right outcomes of %d games", right, games)
	}
}

// P8.1: which moves are right is free: all of them are tried with the right winners.
func TestCheckMoves(t *testing.T) {
	right, wrong := 0, 0
	for _, g := range smallGames(5, 1500) {
		o := solve(t, g)
		choices := slices.Clone(g.Next)
		for v := range choices {
			if g.Owner[v] != o.Winner[v] {
				choices[v] = []int{-1}
			}
		}
		allChoices(choices, func(move []int) {
			if wantPlainCheck(t, g, api.Outcome{Winner: o.Winner, Move: move}) {
				right++
			} else {
				wrong++
			}
		})
	}
	if right < 2000 || wrong < 2000 {
		t.Errorf("%d right, %d wrong", right, wrong)
	}
}

// P8.1: right outcomes of larger games that are changed somewhere are right just if the definition says so.
func TestCheckChanged(t *testing.T) {
	random := rand.New(rand.NewSource(6))
	right, wrong := 0, 0
	for _, g := range gamesOfAllKinds(7) {
		o := solve(t, g)
		for range 5 {
			if wantPlainCheck(t, g, changed(random, g, o)) {
				right++
			} else {
				wrong++
			}
		}
	}
	if right < 500 || wrong < 500 {
		t.Errorf("%d right, %d wrong", right, wrong)
	}
}

// changed returns the outcome with another move or winner of a position, or of more.
func changed(random *rand.Rand, g api.Game, o api.Outcome) api.Outcome {
	x := api.Outcome{Winner: slices.Clone(o.Winner), Move: slices.Clone(o.Move)}
	v := random.Intn(len(g.Owner))
	next := g.Next[v]
	switch random.Intn(6) {
	case 0:
		x.Move[v] = random.Intn(len(g.Owner)+2) - 1
	case 1:
		x.Winner[v] = 1 - x.Winner[v]
		x.Move[v] = -1
		if g.Owner[v] == x.Winner[v] {
			x.Move[v] = next[random.Intn(len(next))]
		}
	default:
		if x.Move[v] != -1 {
			x.Move[v] = next[random.Intn(len(next))]
		}
	}
	if random.Intn(2) == 0 {
		return changed(random, g, x)
	}
	return x
}

// P8.1: what has not a winner and a move for each position is no right outcome.
func TestCheckLengths(t *testing.T) {
	g := api.Game{Owner: []int{0, 1}, Rank: []int{0, 0}, Next: [][]int{{0}, {0, 1}}}
	wantCheck(t, g, api.Outcome{Winner: []int{0, 0}, Move: []int{0, -1}}, api.OK)
	for _, o := range []api.Outcome{
		{}, {Winner: []int{0, 0}}, {Move: []int{0, -1}}, {Winner: []int{0}, Move: []int{0}},
		{Winner: []int{0}, Move: []int{0, -1}}, {Winner: []int{0, 0}, Move: []int{0}},
		{Winner: []int{0, 0, 0}, Move: []int{0, -1, -1}}, {Winner: []int{0, 0}, Move: []int{0, -1, -1}},
		{Winner: []int{0, 0, 0}, Move: []int{0, -1}},
		{Winner: make([]int, 100000), Move: make([]int, 100000)},
		{Winner: []int{0, 0}, Move: []int{math.MaxInt, -1}}, {Winner: []int{0, 0}, Move: []int{math.MinInt, -1}},
		{Winner: []int{0, 0}, Move: []int{0, math.MaxInt}}, {Winner: []int{0, 0}, Move: []int{0, math.MinInt}},
		{Winner: []int{0, math.MaxInt}, Move: []int{0, -1}}, {Winner: []int{math.MinInt, 0}, Move: []int{-1, -1}},
	} {
		wantCheck(t, g, o, api.ErrAnswer)
	}
}

// notGames returns what is no game, by lengths, numbers and lists of Next.
func notGames() []api.Game {
	list := []api.Game{
		{}, {Owner: []int{}, Rank: []int{}, Next: [][]int{}},
		{Owner: []int{0}}, {Rank: []int{0}}, {Next: [][]int{{0}}},
		{Rank: []int{0}, Next: [][]int{{0}}}, {Owner: []int{0}, Next: [][]int{{0}}}, {Owner: []int{0}, Rank: []int{0}},
		{Owner: []int{0, 0}, Rank: []int{0}, Next: [][]int{{0}}},
		{Owner: []int{0}, Rank: []int{0, 0}, Next: [][]int{{0}}},
		{Owner: []int{0}, Rank: []int{0}, Next: [][]int{{0}, {0}}},
		{Owner: []int{0, 0}, Rank: []int{0, 0}, Next: [][]int{{0}}},
		{Owner: []int{0, 0}, Rank: []int{0}, Next: [][]int{{0}, {0}}},
		{Owner: []int{0}, Rank: []int{0, 0}, Next: [][]int{{0}, {0}}},
		circle(0, make([]int, api.MaxPositions+1)), circle(1, make([]int, 10000)),
	}
	for at := range 3 {
		for _, owner := range []int{-1, 2, math.MaxInt, math.MinInt} {
			g := circle(0, make([]int, 3))
			g.Owner[at] = owner
			list = append(list, g)
		}
		for _, rank := range []int{-1, api.MaxRank + 1, math.MaxInt, math.MinInt} {
			g := circle(0, make([]int, 3))
			g.Rank[at] = rank
			list = append(list, g)
		}
		for _, next := range [][]int{
			nil, {}, {-1}, {3}, {math.MaxInt}, {math.MinInt}, {0, 0}, {1, 0}, {0, 1, 1}, {0, 2, 1}, {0, 1, 3}, {-1, 0}, {0, 1, 2, 3}, make([]int, 100000),
		} {
			g := circle(0, make([]int, 3))
			g.Next[at] = next
			list = append(list, g)
		}
	}
	return list
}

// P8.1, P8.2, P8.3, P8.4: what is no game is an error, which comes first; with it, all else is zero.
func TestNotGames(t *testing.T) {
	for _, g := range notGames() {
		if o, e := parity.Solve(g); len(o.Winner) != 0 || len(o.Move) != 0 || e != api.ErrArg {
			t.Errorf("Solve(%v) = %v, %d", g, o, e)
		}
		wantTurn(t, g, api.Game{}, api.ErrArg)
		for _, list := range [][]int{nil, {0}, {0, 0}, {0, 0, 0}, {-1, -1, -1}, {0, 1, 2}} {
			wantCheck(t, g, api.Outcome{Winner: list, Move: list}, api.ErrArg)
			wantAttract(t, g, 0, list, nil, api.ErrArg)
			wantBeats(t, g, 0, list, nil, api.ErrArg)
			wantPlay(t, g, 0, list, nil, nil, 0, api.ErrArg)
		}
	}
}

// P8.1: the least and the greatest numbers that are allowed.
func TestLimits(t *testing.T) {
	ranks := slices.Repeat([]int{api.MaxRank}, api.MaxPositions)
	g := circle(0, ranks)
	wantWinners(t, g, slices.Repeat([]int{1}, api.MaxPositions))
	ranks[7] = 0
	wantWinners(t, g, slices.Repeat([]int{0}, api.MaxPositions))
	for v := range g.Next {
		g.Next[v] = numbers(api.MaxPositions)
	}
	wantWinners(t, g, slices.Repeat([]int{0}, api.MaxPositions))
	for v := range g.Owner {
		g.Owner[v] = 1
	}
	wantWinners(t, g, slices.Repeat([]int{1}, api.MaxPositions))
}
