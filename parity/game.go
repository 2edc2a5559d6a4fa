package parity

import (
	"slices"

	"olivette/api"
)

// game is an api.Game that was found to be one, or a part of such a game.
type game api.Game

// gameOf returns the game, or false if it is none.
func gameOf(g api.Game) (game, bool) {
	n := len(g.Owner)
	if n < 1 || n > api.MaxPositions || len(g.Rank) != n || len(g.Next) != n {
		return game{}, false
	}
	for v, next := range g.Next {
		if !isPlayer(g.Owner[v]) || g.Rank[v] < 0 || g.Rank[v] > api.MaxRank {
			return game{}, false
		}
		if len(next) == 0 || !areAscending(next, n) {
			return game{}, false
		}
	}
	return game(g), true
}

func isPlayer(player int) bool {
	return player == 0 || player == 1
}

// areAscending returns whether these are ascending positions, each once, of a game that has n of them.
func areAscending(list []int, n int) bool {
	least := 0
	for _, v := range list {
		if v < least || v >= n {
			return false
		}
		least = v + 1
	}
	return true
}

func (g game) size() int {
	return len(g.Owner)
}

// all returns the set of all positions.
func (g game) all() region {
	var r region
	for v := range g.Owner {
		r[v] = true
	}
	return r
}

// owns says of a position whether it is the player's.
func (g game) owns(player int) func(v int) bool {
	return func(v int) bool { return g.Owner[v] == player }
}

// always says so of every position.
func always(int) bool {
	return true
}

// isPlan returns whether the list has a number for each position, and one of its Next for those that are bound.
func (g game) isPlan(list []int, bound func(v int) bool) bool {
	if len(list) != g.size() {
		return false
	}
	for v, w := range list {
		if bound(v) && !slices.Contains(g.Next[v], w) {
			return false
		}
	}
	return true
}

// following returns the game in which the positions that are bound have only what the plan says as their Next.
func (g game) following(plan []int, bound func(v int) bool) game {
	next := slices.Clone(g.Next)
	for v := range next {
		if bound(v) {
			next[v] = []int{plan[v]}
		}
	}
	return game{Owner: g.Owner, Rank: g.Rank, Next: next}
}

// greatestRank returns the greatest rank of some positions.
func (g game) greatestRank(positions ...int) int {
	greatest := 0
	for _, v := range positions {
		greatest = max(greatest, g.Rank[v])
	}
	return greatest
}

// turned returns the game in which each Owner is the other player, and each rank is greater by 1.
func (g game) turned() game {
	var x game
	for v, next := range g.Next {
		x.Owner = append(x.Owner, 1-g.Owner[v])
		x.Rank = append(x.Rank, g.Rank[v]+1)
		x.Next = append(x.Next, slices.Clone(next))
	}
	return x
}
