package tree

import "olivette/sets"

// width returns the width of the order.
func (g graph) width(order []int) int {
	width := -1
	for b := range g.bags(order) {
		width = max(width, b.around.Size())
	}
	return width
}

func (g graph) isOrder(order []int) bool {
	left := g.vertices()
	for _, v := range order {
		if !left.Has(v) {
			return false
		}
		left &^= sets.Only(v)
	}
	return left == 0
}

// best returns the lexicographically least order of the least width.
func (g graph) best() []int {
	for width := 0; ; width++ {
		if order, ok := g.orderWithin(width); ok {
			return order
		}
	}
}

// orderWithin returns the lexicographically least order that is not wider, if there is one.
func (g graph) orderWithin(width int) ([]int, bool) {
	order := make([]int, 0, len(g))
	// What is around a vertex depends on the set of the removed ones, not on their order: so does failing.
	failed := map[sets.Set]bool{}
	var extend func(removed sets.Set) bool
	extend = func(removed sets.Set) bool {
		if removed == g.vertices() {
			return true
		}
		if failed[removed] {
			return false
		}
		for v := range (g.vertices() &^ removed).All() {
			if g.around(v, removed).Size() > width {
				continue
			}
			order = append(order, v)
			if extend(removed | sets.Only(v)) {
				return true
			}
			order = order[:len(order)-1]
		}
		failed[removed] = true
		return false
	}
	ok := extend(0)
	return order, ok
}
