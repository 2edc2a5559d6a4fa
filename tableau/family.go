package tableau

import (
	"cmp"
	"slices"

	"olivette/api"
)

// familyOf returns a right family. It takes one that is plain to see in the rows and columns of the word's tableau, laid out as a line, and keeps it right while the line is turned back into the word.
func familyOf(word []int, k int) api.Family {
	s := &sorter{line: ranksOf(word)}
	s.sort()
	rows := s.rows()
	up, down := newChains(len(word)), newChains(len(word))
	for _, row := range rows[:min(k, len(rows))] {
		up.extend(0, row...)
	}
	// A column with more than k boxes has k in the first k rows; any other one has all of them there, and needs no chain.
	if len(rows) > k {
		for column := range rows[k] {
			end := 0
			for _, row := range slices.Backward(rows) {
				if column < len(row) {
					end = down.extend(end, row[column])
				}
			}
		}
	}
	s.undo(up, down)
	return api.Family{Up: up.lists(s.line), Down: down.lists(s.line)}
}

// ranksOf returns the ranks of the word's numbers, from 1 on. Of equal numbers the first has the least rank, so that ranks ascend where numbers do not descend.
func ranksOf(word []int) []int {
	positions := make([]int, len(word))
	for i := range positions {
		positions[i] = i
	}
	slices.SortStableFunc(positions, func(i, j int) int { return cmp.Compare(word[i], word[j]) })
	ranks := make([]int, len(word))
	for i, position := range positions {
		ranks[position] = i + 1
	}
	return ranks
}

// isRight reports whether f is right by the definition alone.
func isRight(word []int, k int, f api.Family) bool {
	if len(f.Up) > k {
		return false
	}
	up, ok := covered(word, f.Up, func(x, next int) bool { return x <= next })
	if !ok {
		return false
	}
	down, ok := covered(word, f.Down, func(x, next int) bool { return x > next })
	return ok && up == k*len(f.Down)+len(word)-down
}

// covered returns how many positions are in the lists, or false if they are no disjoint chains, in which a number follows another one as the function says.
func covered(word []int, lists [][]int, follows func(x, next int) bool) (int, bool) {
	used := make([]bool, len(word))
	n := 0
	for _, list := range lists {
		if len(list) == 0 {
			return 0, false
		}
		last := -1
		for _, i := range list {
			if i <= last || i >= len(word) || used[i] || last >= 0 && !follows(word[last], word[i]) {
				return 0, false
			}
			used[i] = true
			last = i
			n++
		}
	}
	return n, true
}
