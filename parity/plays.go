package parity

import (
	"slices"

	"olivette/api"
)

// reached returns the positions to which one or more moves lead from v over positions whose rank is not greater than most.
func (g game) reached(v, most int) region {
	var found region
	var visit func(v int)
	visit = func(v int) {
		for _, w := range g.Next[v] {
			if g.Rank[w] <= most && !found[w] {
				found[w] = true
				visit(w)
			}
		}
	}
	visit(v)
	return found
}

// hasPlay returns whether the player wins some play from v, whoever moves: then one of the player's ranks can come again and again with no greater one.
func (g game) hasPlay(v, player int) bool {
	for w := range g.reached(v, api.MaxRank).positions() {
		if rank := g.Rank[w]; rank%2 == player && g.reached(w, rank)[w] {
			return true
		}
	}
	return false
}

// beaten returns the positions from which the player wins all plays.
func (g game) beaten(player int) region {
	var r region
	for v := range g.all().positions() {
		r[v] = !g.hasPlay(v, 1-player)
	}
	return r
}

// isRight returns whether the outcome is right.
func (g game) isRight(o api.Outcome) bool {
	owned := func(v int) bool { return g.Owner[v] == o.Winner[v] }
	if len(o.Winner) != g.size() || !g.isPlan(o.Move, owned) {
		return false
	}
	for v, player := range o.Winner {
		if !isPlayer(player) || !owned(v) && o.Move[v] != -1 {
			return false
		}
	}
	// A position that leads to one with the other Winner need not be looked for: all plays from there would be won by both.
	won := g.following(o.Move, owned)
	for v, player := range o.Winner {
		if won.hasPlay(v, 1-player) {
			return false
		}
	}
	return true
}

// play returns the play from v on in which each position is followed by that of the plan: the positions that come once, and those that come again and again.
func play(v int, plan []int) ([]int, []int) {
	var line []int
	var seen region
	for !seen[v] {
		seen[v] = true
		line = append(line, v)
		v = plan[v]
	}
	again := slices.Index(line, v)
	return slices.Clone(line[:again]), slices.Clone(line[again:])
}
