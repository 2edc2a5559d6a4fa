package parity_test

import (
	"math/rand"
	"slices"
	"testing"

	"olivette/api"
	"olivette/parity"
)

// wonBy returns the positions that the player wins.
func wonBy(o api.Outcome, player int) []int {
	return where(len(o.Winner), func(v int) bool { return o.Winner[v] == player })
}

// P8.5: the moves of a right outcome, completed in any way, beat all that their player wins, with one plan for all positions.
func TestMovesBeat(t *testing.T) {
	random := rand.New(rand.NewSource(41))
	for _, g := range gamesOfAllKinds(42) {
		o := solve(t, g)
		for player := range 2 {
			for range 5 {
				plan := somePlan(random, g, player)
				for v, w := range o.Move {
					if o.Winner[v] == player && w != -1 {
						plan[v] = w
					}
				}
				wantBeats(t, g, player, plan, wonBy(o, player), api.OK)
			}
		}
	}
}

// P8.5: no plan beats more than its player wins.
func TestNoPlanBeatsMore(t *testing.T) {
	random := rand.New(rand.NewSource(43))
	less := 0
	for _, g := range gamesOfAllKinds(44) {
		o := solve(t, g)
		for player := range 2 {
			won := wonBy(o, player)
			for range 5 {
				plan := somePlan(random, g, player)
				list, e := parity.Beats(g, player, plan)
				if e != api.OK || slices.ContainsFunc(list, func(v int) bool { return !slices.Contains(won, v) }) {
					t.Errorf("Beats(%v, %d, %v) = %v, %d; it wins %v", g, player, plan, list, e, won)
				}
				if len(list) < len(won) {
					less++
				}
			}
		}
	}
	if less < 500 {
		t.Errorf("%d plans beat less", less)
	}
}

// P8.5: the winners of the turned game are the others.
func TestWinnersTurned(t *testing.T) {
	for _, g := range gamesOfAllKinds(45) {
		if slices.Contains(g.Rank, api.MaxRank) {
			continue
		}
		o, h := solve(t, g), copied(g)
		h, _ = parity.Turn(h)
		for v := range o.Winner {
			o.Winner[v] = 1 - o.Winner[v]
		}
		wantWinners(t, h, o.Winner)
		wantCheck(t, h, o, api.OK)
	}
}

// P8.5: the attractor of what a player wins, for this player, is itself.
func TestAttractorOfWon(t *testing.T) {
	for _, g := range gamesOfAllKinds(46) {
		o := solve(t, g)
		for player := range 2 {
			won := wonBy(o, player)
			wantAttract(t, g, player, won, won, api.OK)
		}
	}
}

// P8.5: further Next at positions of a player's never make this player lose what it won.
func TestFurtherNext(t *testing.T) {
	random := rand.New(rand.NewSource(47))
	more := 0
	for _, g := range gamesOfAllKinds(48) {
		o := solve(t, g)
		for player := range 2 {
			h := copied(g)
			for v, next := range h.Next {
				w := random.Intn(len(h.Next))
				if i, ok := slices.BinarySearch(next, w); !ok && h.Owner[v] == player {
					h.Next[v] = slices.Insert(next, i, w)
				}
			}
			won, now := wonBy(o, player), wonBy(solve(t, h), player)
			if slices.ContainsFunc(won, func(v int) bool { return !slices.Contains(now, v) }) {
				t.Errorf("%v: player %d wins %v; %v with the Next of %v", g, player, won, now, h)
			}
			if len(now) > len(won) {
				more++
			}
		}
	}
	if more < 50 {
		t.Errorf("a player wins more %d times", more)
	}
}
