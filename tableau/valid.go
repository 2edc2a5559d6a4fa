package tableau

import (
	"slices"

	"olivette/api"
)

func isWord(list []int) bool {
	return len(list) <= api.MaxWord && areLetters(list)
}

func areLetters(list []int) bool {
	return !slices.ContainsFunc(list, func(x int) bool { return x < 0 || x > api.MaxLetter })
}

func isFamilySize(k int) bool {
	return k >= 1 && k <= api.MaxWord
}

func isShape(list []int) bool {
	for i, n := range list {
		if n < 1 || i > 0 && n > list[i-1] {
			return false
		}
	}
	return true
}

// fits reports whether the numbers of the shape add up to at most limit. It adds nothing, as the sum may be too great for an int.
func fits(shape []int, limit int) bool {
	for _, n := range shape {
		if n > limit {
			return false
		}
		limit -= n
	}
	return true
}

// countable returns the error for which standard tableaux of the shape are not counted.
func countable(shape []int) api.Errno {
	if !isShape(shape) {
		return api.ErrArg
	}
	if !fits(shape, api.MaxBoxes) {
		return api.ErrFull
	}
	return api.OK
}

// shapeOf returns the lengths of the rows.
func shapeOf(rows [][]int) []int {
	shape := make([]int, len(rows))
	for i, row := range rows {
		shape[i] = len(row)
	}
	return shape
}

// sizeOf returns how many numbers the rows have.
func sizeOf(rows [][]int) int {
	n := 0
	for _, row := range rows {
		n += len(row)
	}
	return n
}

func isTableau(rows [][]int) bool {
	shape := shapeOf(rows)
	if !isShape(shape) || !fits(shape, api.MaxWord) {
		return false
	}
	for i, row := range rows {
		if !areLetters(row) || !slices.IsSorted(row) || i > 0 && !isBelow(row, rows[i-1]) {
			return false
		}
	}
	return true
}

// isBelow reports whether every number of the row is greater than the one above it.
func isBelow(row, above []int) bool {
	for i, x := range row {
		if x <= above[i] {
			return false
		}
	}
	return true
}

func isStandard(rows [][]int) bool {
	if !isTableau(rows) {
		return false
	}
	numbers := slices.Concat(rows...)
	slices.Sort(numbers)
	for i, x := range numbers {
		if x != i+1 {
			return false
		}
	}
	return true
}
