package tableau

import (
	"sort"

	"olivette/api"
)

// outline is a shape of at most MaxBoxes boxes, with zeros behind its numbers, so that it can be a key.
type outline [api.MaxBoxes]uint8

func outlineOf(shape []int) outline {
	var o outline
	for i, n := range shape {
		o[i] = uint8(n)
	}
	return o
}

// hasCorner reports whether the row's last box can be removed.
func (o outline) hasCorner(row int) bool {
	return o[row] > 0 && (row == len(o)-1 || o[row] > o[row+1])
}

// without returns the outline without the row's last box.
func (o outline) without(row int) outline {
	o[row]--
	return o
}

// rows returns rows of zeros.
func (o outline) rows() [][]int {
	var rows [][]int
	for _, n := range o {
		if n > 0 {
			rows = append(rows, make([]int, n))
		}
	}
	return rows
}

// counter keeps the numbers of standard tableaux of the shapes that it has counted.
type counter map[outline]int

func (c counter) count(o outline) int {
	if o[0] == 0 {
		return 1
	}
	if n, ok := c[o]; ok {
		return n
	}
	n := c.lower(o, -1)
	c[o] = n
	return n
}

// lower returns the number of standard tableaux whose greatest number is in a row that is lower than that.
func (c counter) lower(o outline, row int) int {
	n := 0
	for i := row + 1; i < len(o); i++ {
		if o.hasCorner(i) {
			n += c.count(o.without(i))
		}
	}
	return n
}

// standard returns the standard tableau that has k before it, of which there are enough.
func (c counter) standard(o outline, k int) [][]int {
	t := o.rows()
	for x := sizeOf(t); x > 0; x-- {
		// x is in the highest row for which at most k tableaux have it lower.
		row := sort.Search(len(o), func(i int) bool { return c.lower(o, i) <= k })
		k -= c.lower(o, row)
		o = o.without(row)
		t[row][o[row]] = x
	}
	return t
}

// index returns how many standard tableaux come before the one whose numbers 1, 2, and so on are in these rows.
func (c counter) index(o outline, rows []int) int {
	k := 0
	for i := len(rows) - 1; i >= 0; i-- {
		k += c.lower(o, rows[i])
		o = o.without(rows[i])
	}
	return k
}
