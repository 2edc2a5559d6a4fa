package ltl

// table lists formulas and their parts, each once, parts first. Sets of them are numbers, with a bit for each place in the list.
type table struct {
	rows  []row
	place map[string]int // by the text
	// awaited are those of which it matters whether they are true at the next position.
	awaited int
	// debts are the places of those of which it matters whether they are ever decided.
	debts []int
}

// row is a formula, and the places of its first and its last part.
type row struct {
	node        node
	left, right int
}

func has(set, at int) bool { return set>>at&1 == 1 }

// add returns the place of the formula.
func (t *table) add(f node) int {
	text := written(f)
	if at, ok := t.place[text]; ok {
		return at
	}
	r := row{node: f}
	if parts := f.parts(); len(parts) > 0 {
		r.left = t.add(parts[0])
		r.right = t.add(parts[len(parts)-1])
	}
	at := len(t.rows)
	t.rows = append(t.rows, r)
	if t.place == nil {
		t.place = map[string]int{}
	}
	t.place[text] = at
	switch f.(type) {
	case next:
		t.awaited |= 1 << r.left
	case until, release, always, finally:
		t.awaited |= 1 << at
		t.debts = append(t.debts, at)
	}
	return at
}

// derived returns what is true at a position with this mark, if that is true at the next one.
func (t *table) derived(mark, later int) int {
	now := 0
	for i, r := range t.rows {
		if value(r.node, view{mark, has(now, r.left), has(now, r.right), has(later, r.left), has(later, i)}) {
			now |= 1 << i
		}
	}
	return now
}

// settles reports whether the debt is paid where this is true: one that was not paid ever would differ from its last part for ever.
func (t *table) settles(now, debt int) bool {
	return has(now, debt) == has(now, t.rows[debt].right)
}
