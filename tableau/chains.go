package tableau

// chains are disjoint lists of ranks, which are numbers from 1 on: has says which ones are in a chain, and before and after lead along the chains, and to 0 at their ends.
type chains struct {
	has           []bool
	before, after []int
}

// newChains has room for the ranks up to n.
func newChains(n int) *chains {
	return &chains{has: make([]bool, n+1), before: make([]int, n+1), after: make([]int, n+1)}
}

// extend adds the ranks to the chain that ends with last, or to a new one if last is 0, and returns the new end.
func (c *chains) extend(last int, ranks ...int) int {
	for _, x := range ranks {
		c.has[x] = true
		c.join(last, x)
		last = x
	}
	return last
}

// join lets y follow x. Either may be 0, for which nobody asks what is before or after it.
func (c *chains) join(x, y int) {
	c.after[x], c.before[y] = y, x
}

// replace gives the place of x in its chain to y, which is in none.
func (c *chains) replace(x, y int) {
	c.has[x], c.has[y] = false, true
	c.join(c.before[x], y)
	c.join(y, c.after[x])
	c.before[x], c.after[x] = 0, 0
}

// part sees to it that no chain leads from a to z, which are neighbors in the line and are to be swapped. Beside them, to the left of a or to the right of z, is b, whose rank is between theirs: it can stand where one of them can't any more. Afterwards as many ranks are in as many chains as before.
func (c *chains) part(a, z, b int, left bool) {
	switch {
	case c.after[a] != z:
	case left && !c.has[b]:
		c.replace(a, b)
	case left:
		rest := c.after[b]
		c.join(b, z)
		c.join(a, rest)
	case !c.has[b]:
		c.replace(z, b)
	default:
		start := c.before[b]
		c.join(a, b)
		c.join(start, z)
	}
}

// lists returns the chains as lists of the positions of their ranks in the line, which has each rank once.
func (c *chains) lists(line []int) [][]int {
	position := make([]int, len(line)+1)
	for i, x := range line {
		position[x] = i
	}
	var lists [][]int
	for _, x := range line {
		if !c.has[x] || c.before[x] != 0 {
			continue
		}
		var list []int
		for ; x != 0; x = c.after[x] {
			list = append(list, position[x])
		}
		lists = append(lists, list)
	}
	return lists
}
