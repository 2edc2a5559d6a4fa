package parity_test

import (
	"math"
	"math/rand"
	"slices"
	"testing"

	"olivette/api"
	"olivette/parity"
)

// someGame returns a game of n positions with ranks from 0 to ranks - 1, in which each position is a Next of each other one with a chance, and each has one at least.
func someGame(random *rand.Rand, n, ranks int, chance float64) api.Game {
	var g api.Game
	for range n {
		next := []int{}
		for w := range n {
			if random.Float64() < chance {
				next = append(next, w)
			}
		}
		if len(next) == 0 {
			next = append(next, random.Intn(n))
		}
		g.Owner = append(g.Owner, random.Intn(2))
		g.Rank = append(g.Rank, random.Intn(ranks))
		g.Next = append(g.Next, next)
	}
	return g
}

// gamesOfAllKinds returns games of all sizes, with few ranks and with many, thin ones and thick ones.
func gamesOfAllKinds(seed int64) []api.Game {
	random := rand.New(rand.NewSource(seed))
	var list []api.Game
	for n := 1; n <= api.MaxPositions; n++ {
		for _, ranks := range []int{1, 2, 3, 4, 7, 10} {
			for _, chance := range []float64{0, 1.2 / float64(n), 2.5 / float64(n), 0.5, 1} {
				list = append(list, someGame(random, n, ranks, chance))
			}
		}
	}
	return list
}

// smallGames returns games of up to five positions, few enough plans of which can all be tried.
func smallGames(seed int64, number int) []api.Game {
	random := rand.New(rand.NewSource(seed))
	var list []api.Game
	for range number {
		list = append(list, someGame(random, 1+random.Intn(5), 1+random.Intn(10), 0.4))
	}
	return list
}

// allLists calls do with all lists of n numbers from 0 to below - 1.
func allLists(n, below int, do func(list []int)) {
	choices := slices.Repeat([][]int{numbers(below)}, n)
	allChoices(choices, do)
}

// allChoices calls do with all lists that have one of the choices at each position. The list is the same each time.
func allChoices(choices [][]int, do func(list []int)) {
	list := make([]int, len(choices))
	var choose func(i int)
	choose = func(i int) {
		if i == len(choices) {
			do(list)
			return
		}
		for _, list[i] = range choices[i] {
			choose(i + 1)
		}
	}
	choose(0)
}

func numbers(below int) []int {
	list := make([]int, below)
	for i := range list {
		list[i] = i
	}
	return list
}

// listOf returns the numbers whose bits are in the set.
func listOf(set int) []int {
	list := []int{}
	for v := range 63 {
		if set>>v&1 == 1 {
			list = append(list, v)
		}
	}
	return list
}

// allGames calls do with all games of n positions whose ranks are less than ranks.
func allGames(n, ranks int, do func(g api.Game)) {
	allLists(n, 2, func(owner []int) {
		allLists(n, ranks, func(rank []int) {
			allLists(n, 1<<n-1, func(sets []int) {
				g := api.Game{Owner: slices.Clone(owner), Rank: slices.Clone(rank)}
				for _, set := range sets {
					g.Next = append(g.Next, listOf(set+1))
				}
				do(g)
			})
		})
	})
}

func copied(g api.Game) api.Game {
	h := api.Game{Owner: slices.Clone(g.Owner), Rank: slices.Clone(g.Rank)}
	for _, next := range g.Next {
		h.Next = append(h.Next, slices.Clone(next))
	}
	return h
}

func isSame(g, h api.Game) bool {
	return slices.Equal(g.Owner, h.Owner) && slices.Equal(g.Rank, h.Rank) && slices.EqualFunc(g.Next, h.Next, slices.Equal)
}

// where returns the positions of which this is so.
func where(n int, so func(v int) bool) []int {
	list := []int{}
	for v := range n {
		if so(v) {
			list = append(list, v)
		}
	}
	return list
}

// choicesOf returns the Next of positions of the player's, and for others a number that is no position.
func choicesOf(g api.Game, player int) [][]int {
	choices := slices.Clone(g.Next)
	for v := range choices {
		if g.Owner[v] != player {
			choices[v] = []int{-7}
		}
	}
	return choices
}

// somePlan returns a plan for the player, with any numbers for the other one.
func somePlan(random *rand.Rand, g api.Game, player int) []int {
	var plan []int
	for v, next := range g.Next {
		if g.Owner[v] == player {
			plan = append(plan, next[random.Intn(len(next))])
		} else {
			plan = append(plan, []int{-1, 0, v, len(g.Next), math.MaxInt, math.MinInt}[random.Intn(6)])
		}
	}
	return plan
}

// plainPlay goes on until all that comes again has come, and again as far.
func plainPlay(g api.Game, from int, plan []int) ([]int, []int, int) {
	var line []int
	for v := from; len(line) <= 2*len(g.Next); v = plan[v] {
		line = append(line, v)
	}
	late := line[len(g.Next):]
	start := slices.IndexFunc(line, func(v int) bool { return slices.Contains(late, v) })
	way, loop := line[:start], line[start:]
	loop = loop[:1+slices.Index(loop[1:], loop[0])]
	greatest := -1
	for _, v := range loop {
		greatest = max(greatest, g.Rank[v])
	}
	return way, loop, greatest % 2
}

// plainWinners returns who wins the positions: for each of both players it tries whether one plan wins against all plans of the other one. A position that not just one player wins this way has the winner -1.
func plainWinners(g api.Game) []int {
	var wins [2][]bool
	for player := range wins {
		wins[player] = make([]bool, len(g.Owner))
		allChoices(choicesOf(g, player), func(plan []int) {
			for v, all := range winsAll(g, player, plan) {
				wins[player][v] = wins[player][v] || all
			}
		})
	}
	winners := make([]int, len(g.Owner))
	for v := range winners {
		switch {
		case wins[0][v] == wins[1][v]:
			winners[v] = -1
		case wins[1][v]:
			winners[v] = 1
		}
	}
	return winners
}

// winsAll returns for each position whether the plan wins from there against all plans of the other player.
func winsAll(g api.Game, player int, plan []int) []bool {
	wins := slices.Repeat([]bool{true}, len(g.Owner))
	allChoices(choicesOf(g, 1-player), func(other []int) {
		both := slices.Clone(plan)
		for v := range both {
			if g.Owner[v] != player {
				both[v] = other[v]
			}
		}
		for v := range wins {
			_, _, winner := plainPlay(g, v, both)
			wins[v] = wins[v] && winner == player
		}
	})
	return wins
}

// walks returns for each two positions the greatest ranks, as bits, that walks of one move or more from one to the other have.
func walks(rank []int, next [][]int) [][]int {
	table := make([][]int, len(next))
	for v, list := range next {
		table[v] = make([]int, len(next))
		for _, w := range list {
			table[v][w] = 1 << max(rank[v], rank[w])
		}
	}
	for changed := true; changed; {
		changed = false
		for v := range table {
			for w, list := range next {
				for _, x := range list {
					more := table[v][x] | raised(table[v][w], rank[x])
					changed = changed || more != table[v][x]
					table[v][x] = more
				}
			}
		}
	}
	return table
}

// raised returns the bits of the ranks that are the greatest ones when there is another rank too.
func raised(bits, rank int) int {
	least := 1 << rank
	if bits%least != 0 {
		return bits&^(least-1) | least
	}
	return bits
}

// plainBeats returns whether the player wins all plays from v: there is no walk from v that comes back to where it ends with a greatest rank that is the other one's.
func plainBeats(table [][]int, v, player int) bool {
	others := 0b1010101010
	if player == 1 {
		others = 0b0101010101
	}
	for w := range table {
		if (w == v || table[v][w] != 0) && table[w][w]&others != 0 {
			return false
		}
	}
	return true
}

// nextByPlan returns the Next that are left if the player follows the plan.
func nextByPlan(g api.Game, player int, plan []int) [][]int {
	next := slices.Clone(g.Next)
	for v := range next {
		if g.Owner[v] == player {
			next[v] = []int{plan[v]}
		}
	}
	return next
}

// isPlainRight follows the definition.
func isPlainRight(g api.Game, o api.Outcome) bool {
	n := len(g.Owner)
	if len(o.Winner) != n || len(o.Move) != n {
		return false
	}
	for v := range n {
		switch {
		case o.Winner[v] != 0 && o.Winner[v] != 1:
			return false
		case g.Owner[v] == o.Winner[v] && !slices.Contains(g.Next[v], o.Move[v]):
			return false
		case g.Owner[v] != o.Winner[v] && o.Move[v] != -1:
			return false
		}
	}
	for player := range 2 {
		next := slices.Clone(g.Next)
		for v := range next {
			if g.Owner[v] == player && o.Winner[v] == player {
				next[v] = []int{o.Move[v]}
			}
		}
		table := walks(g.Rank, next)
		for v := range n {
			if o.Winner[v] != player {
				continue
			}
			for w := range n {
				if table[v][w] != 0 && o.Winner[w] != player {
					return false
				}
			}
			if !plainBeats(table, v, player) {
				return false
			}
		}
	}
	return true
}

// drawn returns, as bits, the positions that are not in the set of bits, from which the player can make the next one be in it.
func drawn(g api.Game, player, set int) int {
	more := 0
	for v, next := range g.Next {
		inside := 0
		for _, w := range next {
			inside += set >> w & 1
		}
		if set>>v&1 == 0 && (inside == len(next) || g.Owner[v] == player && inside > 0) {
			more |= 1 << v
		}
	}
	return more
}

// plainAttract returns what all sets have in common that contain the set and draw in nothing more.
func plainAttract(g api.Game, player, set int) int {
	common := 1<<len(g.Owner) - 1
	for s := range 1 << len(g.Owner) {
		if s&set == set && drawn(g, player, s) == 0 {
			common &= s
		}
	}
	return common
}

func solve(t *testing.T, g api.Game) api.Outcome {
	t.Helper()
	o, e := parity.Solve(g)
	if e != api.OK || !isPlainRight(g, o) {
		t.Fatalf("Solve(%v) = %v, %d", g, o, e)
	}
	return o
}

func wantWinners(t *testing.T, g api.Game, winners []int) {
	t.Helper()
	if o := solve(t, g); !slices.Equal(o.Winner, winners) {
		t.Errorf("Solve(%v) = %v; winners %v", g, o, winners)
	}
}

func wantCheck(t *testing.T, g api.Game, o api.Outcome, want api.Errno) {
	t.Helper()
	if e := parity.Check(g, o); e != want {
		t.Errorf("Check(%v, %v) = %d; want %d", g, o, e, want)
	}
}

// wantPlainCheck wants what the definition says, and returns whether the outcome is right.
func wantPlainCheck(t *testing.T, g api.Game, o api.Outcome) bool {
	t.Helper()
	right, want := isPlainRight(g, o), api.OK
	if !right {
		want = api.ErrAnswer
	}
	wantCheck(t, g, o, want)
	return right
}

func wantAttract(t *testing.T, g api.Game, player int, set, want []int, errno api.Errno) {
	t.Helper()
	if list, e := parity.Attract(g, player, set); e != errno || !slices.Equal(list, want) {
		t.Errorf("Attract(%v, %d, %v) = %v, %d; want %v, %d", g, player, set, list, e, want, errno)
	}
}

func wantPlay(t *testing.T, g api.Game, from int, plan, way, loop []int, winner int, errno api.Errno) {
	t.Helper()
	a, b, w, e := parity.Play(g, from, plan)
	if e != errno || w != winner || !slices.Equal(a, way) || !slices.Equal(b, loop) {
		t.Errorf("Play(%v, %d, %v) = %v, %v, %d, %d; want %v, %v, %d, %d", g, from, plan, a, b, w, e, way, loop, winner, errno)
	}
}

func wantBeats(t *testing.T, g api.Game, player int, plan, want []int, errno api.Errno) {
	t.Helper()
	if list, e := parity.Beats(g, player, plan); e != errno || !slices.Equal(list, want) {
		t.Errorf("Beats(%v, %d, %v) = %v, %d; want %v, %d", g, player, plan, list, e, want, errno)
	}
}

func wantTurn(t *testing.T, g, want api.Game, errno api.Errno) {
	t.Helper()
	if h, e := parity.Turn(g); e != errno || !isSame(h, want) {
		t.Errorf("Turn(%v) = %v, %d; want %v, %d", g, h, e, want, errno)
	}
}
