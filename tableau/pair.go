package tableau

import (
	"slices"
	"sort"
)

// pairOf returns the pair of the word.
func pairOf(word []int) (p, q [][]int) {
	for i, x := range word {
		var grown int
		p, grown = insert(p, x)
		if grown == len(q) {
			q = append(q, nil)
		}
		q[grown] = append(q[grown], i+1)
	}
	return p, q
}

// insert inserts x into the first row, and returns the rows and the position of the one that grew.
func insert(rows [][]int, x int) ([][]int, int) {
	for i, row := range rows {
		at := sort.Search(len(row), func(j int) bool { return row[j] > x })
		if at == len(row) {
			rows[i] = append(row, x)
			return rows, i
		}
		row[at], x = x, row[at]
	}
	return append(rows, []int{x}), len(rows)
}

// wordOf returns the word whose pair is p and q, by undoing its insertions from the last one on.
func wordOf(p, q [][]int) []int {
	rows := make([][]int, len(p))
	for i, row := range p {
		rows[i] = slices.Clone(row)
	}
	grown := rowOfEach(q)
	word := make([]int, len(grown))
	for i, row := range slices.Backward(grown) {
		word[i] = remove(rows, row)
	}
	return word
}

// remove undoes the insertion by which the row at the position grew, and returns what was inserted.
func remove(rows [][]int, grown int) int {
	last := len(rows[grown]) - 1
	x := rows[grown][last]
	rows[grown] = rows[grown][:last]
	for _, row := range slices.Backward(rows[:grown]) {
		// What put x out of this row is the last number that is less than x.
		at := sort.Search(len(row), func(j int) bool { return row[j] >= x }) - 1
		row[at], x = x, row[at]
	}
	return x
}

// rowOfEach returns the positions of the rows of the numbers 1, 2, and so on in a standard tableau.
func rowOfEach(t [][]int) []int {
	list := make([]int, sizeOf(t))
	for i, row := range t {
		for _, x := range row {
			list[x-1] = i
		}
	}
	return list
}
