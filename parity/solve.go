package parity

import (
	"slices"

	"olivette/api"
)

// attract returns the attractor of the set for the player in the game that stays inside a region, which contains the set and leaves each of its positions a Next. It notes the player's moves into the attractor, nearer to the set, in move.
func (g game) attract(inside, set region, player int, move []int) region {
	isDrawn := func(w int) bool { return set[w] }
	escapes := func(w int) bool { return inside[w] && !set[w] }
	for {
		before := set
		for v := range inside.without(set).positions() {
			if g.Owner[v] != player {
				set[v] = !slices.ContainsFunc(g.Next[v], escapes)
			} else if i := slices.IndexFunc(g.Next[v], isDrawn); i >= 0 {
				set[v], move[v] = true, g.Next[v][i]
			}
		}
		if set == before {
			return set
		}
	}
}

// solve returns the right outcome by Zielonka's way: parts of the game that attractors leave are games too, with fewer positions.
func (g game) solve() api.Outcome {
	move := make([]int, g.size())
	var divide func(inside region) [2]region
	divide = func(inside region) [2]region {
		if inside == (region{}) {
			return [2]region{}
		}
		top, player := g.top(inside)
		g.stay(inside, top, move)
		won := divide(inside.without(g.attract(inside, top, player, move)))
		if won[1-player] == (region{}) {
			// A play comes to the top again and again, or stays where the player wins without it.
			won[player] = inside
			return won
		}
		// The player can't leave for the top from what the other one wins without it, so it is the other one's, with what it attracts.
		lost := g.attract(inside, won[1-player], 1-player, move)
		won = divide(inside.without(lost))
		won[1-player] = won[1-player].with(lost)
		return won
	}
	return g.outcome(divide(g.all()), move)
}

// top returns the positions of the greatest rank in a region that is not empty, and the player who wins if they come again and again.
func (g game) top(inside region) (region, int) {
	rank := g.greatestRank(inside.list()...)
	var top region
	for v := range inside.positions() {
		top[v] = g.Rank[v] == rank
	}
	return top, rank % 2
}

// stay notes a move inside the region for each position of the set.
func (g game) stay(inside, set region, move []int) {
	for v := range set.positions() {
		i := slices.IndexFunc(g.Next[v], func(w int) bool { return inside[w] })
		move[v] = g.Next[v][i]
	}
}

// outcome returns the winners with their moves, of which move has those that were noted last.
func (g game) outcome(won [2]region, move []int) api.Outcome {
	o := api.Outcome{Winner: make([]int, g.size()), Move: slices.Repeat([]int{-1}, g.size())}
	for v := range won[1].positions() {
		o.Winner[v] = 1
	}
	for v, player := range o.Winner {
		if g.Owner[v] == player {
			o.Move[v] = move[v]
		}
	}
	return o
}
