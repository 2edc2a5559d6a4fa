package tree

import (
	"iter"
	"slices"

	"olivette/api"
	"olivette/sets"
)

// none stands where a vertex is expected, if there is none.
const none = api.MaxSmall

// bag is a vertex with those around it when it is removed, and the vertex at whose bag this one hangs.
type bag struct {
	vertex int
	around sets.Set
	at     int
}

// bags visits the bags that come of removing the vertices in the order. Each one hangs at the bag of the vertex around it that is removed first, in which all others around it are, or at none.
func (g graph) bags(order []int) iter.Seq[bag] {
	return func(yield func(bag) bool) {
		var removed sets.Set
		for _, v := range order {
			b := bag{vertex: v, around: g.around(v, removed), at: none}
			if i := slices.IndexFunc(order, b.around.Has); i >= 0 {
				b.at = order[i]
			}
			if !yield(b) {
				return
			}
			removed |= sets.Only(v)
		}
	}
}

// treeOf returns the bags of removing the vertices in the order, linked to one tree.
func treeOf(g graph, order []int) api.Tree {
	if len(order) == 0 {
		return api.Tree{Bags: [][]int{{}}}
	}
	var t api.Tree
	for b := range g.bags(order) {
		i := len(t.Bags)
		t.Bags = append(t.Bags, (b.around | sets.Only(b.vertex)).List())
		switch {
		case b.at != none:
			t.Links = append(t.Links, [2]int{i, slices.Index(order, b.at)})
		case i < len(order)-1:
			// Nothing of this bag is in a later one, so it may hang at any of them.
			t.Links = append(t.Links, [2]int{i, i + 1})
		}
	}
	return t
}
