package tableau

import "slices"

// sorter turns a line of ranks into the rows of its tableau, the lowest row first, by insertions that are made of swaps.
type sorter struct {
	line []int
	// lengths are those of the rows, the first row's first.
	lengths []int
	swaps   []swap
}

// swap is an exchange of the neighbors at the positions at and at + 1. The rank at the position witness, beside them, is between theirs (Knuth's relations).
type swap struct {
	at, witness int
}

func (s *sorter) sort() {
	for end := range s.line {
		s.insert(end)
	}
}

// insert inserts the rank that follows the rows into them.
func (s *sorter) insert(at int) {
	for i, length := range s.lengths {
		if s.line[at-1] < s.line[at] {
			s.lengths[i]++
			return
		}
		start := at - length
		// The rank goes past all that are greater but the first of them, and that one past the rest of the row, to the end of the next row.
		for at-2 >= start && s.line[at-2] > s.line[at] {
			s.exchange(at-1, at-2)
			at--
		}
		for at--; at > start; at-- {
			s.exchange(at-1, at+1)
		}
	}
	s.lengths = append(s.lengths, 1)
}

func (s *sorter) exchange(at, witness int) {
	s.line[at], s.line[at+1] = s.line[at+1], s.line[at]
	s.swaps = append(s.swaps, swap{at, witness})
}

// rows returns the rows into which the line is sorted.
func (s *sorter) rows() [][]int {
	rows := make([][]int, len(s.lengths))
	end := len(s.line)
	for i, length := range s.lengths {
		rows[i] = slices.Clone(s.line[end-length : end])
		end -= length
	}
	return rows
}

// undo takes the swaps back, the last one first. The chains of up ascend along the line and those of down descend, before and after; they keep their number, and that of their ranks.
func (s *sorter) undo(up, down *chains) {
	for _, w := range slices.Backward(s.swaps) {
		a, z, b := s.line[w.at], s.line[w.at+1], s.line[w.witness]
		left := w.witness < w.at
		if a < z {
			up.part(a, z, b, left)
		} else {
			down.part(a, z, b, left)
		}
		s.line[w.at], s.line[w.at+1] = z, a
	}
}
