package ltl

import "slices"

// line is a sequence of marks that goes on at the position back after its end. Truth keeps, by the texts of formulas, at which positions they are true.
type line struct {
	marks []int
	back  int
	truth map[string][]bool
}

func newLine(stem, loop []int) line {
	return line{slices.Concat(stem, loop), len(stem), map[string][]bool{}}
}

// begins returns whether the formula is true at the first position.
func (l line) begins(f node) bool { return l.where(f)[0] }

// where returns for each position whether the formula is true there.
func (l line) where(f node) []bool {
	text := written(f)
	if list, ok := l.truth[text]; ok {
		return list
	}
	list := make([]bool, len(l.marks))
	left, right := list, list // a leaf looks at neither
	if parts := f.parts(); len(parts) > 0 {
		left, right = l.where(parts[0]), l.where(parts[len(parts)-1])
	}
	list[l.back] = isLasting(f)
	// What is assumed at the beginning of the loop is right there after the first time, so everywhere after the second one.
	for range 2 {
		for at := len(list) - 1; at >= 0; at-- {
			after := at + 1
			if after == len(list) {
				after = l.back
			}
			list[at] = value(f, view{l.marks[at], left[at], right[at], left[after], list[after]})
		}
	}
	l.truth[text] = list
	return list
}

// isLasting reports whether the formula is true if nothing ever decides it.
func isLasting(f node) bool {
	switch f.(type) {
	case always, release:
		return true
	}
	return false
}
