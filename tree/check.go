package tree

import (
	"iter"
	"slices"

	"olivette/api"
	"olivette/sets"
)

// bagsOf returns the bags of t as sets, if they are ascending vertices, and not too many.
func bagsOf(g graph, t api.Tree) ([]sets.Set, bool) {
	if len(t.Bags) < 1 || len(t.Bags) > api.MaxBags {
		return nil, false
	}
	bags, all := make([]sets.Set, len(t.Bags)), g.vertices()
	for i, list := range t.Bags {
		for k, v := range list {
			if !all.Has(v) || k > 0 && list[k-1] >= v {
				return nil, false
			}
			bags[i] |= sets.Only(v)
		}
	}
	return bags, true
}

func widthOf(bags []sets.Set) int {
	width := -1
	for _, b := range bags {
		width = max(width, b.Size()-1)
	}
	return width
}

func isRight(g graph, bags []sets.Set, links [][2]int) bool {
	if !areLinks(links, len(bags)) || !hangTogether(bags, links, 0) {
		return false
	}
	for v, neighbors := range g {
		var near sets.Set
		for _, b := range bags {
			if b.Has(v) {
				near |= b
			}
		}
		if !near.Has(v) || neighbors&^near != 0 || !hangTogether(bags, links, sets.Only(v)) {
			return false
		}
	}
	return true
}

// areLinks returns whether these are as many links as a tree of so many bags has.
func areLinks(links [][2]int, bags int) bool {
	if len(links) != bags-1 {
		return false
	}
	for _, l := range links {
		if min(l[0], l[1]) < 0 || max(l[0], l[1]) >= bags || l[0] == l[1] {
			return false
		}
	}
	return true
}

// hangTogether returns whether links between bags that contain all of s lead from each one of these bags to each other one.
func hangTogether(bags []sets.Set, links [][2]int, s sets.Set) bool {
	missing := 0
	for _, b := range bags {
		if b&s == s {
			missing++
		}
	}
	for range reached(bags, links, s) {
		missing--
	}
	return missing == 0
}

// reached visits the positions of bags that contain all of s: the first one, and those to which links between such bags lead from there.
func reached(bags []sets.Set, links [][2]int, s sets.Set) iter.Seq[int] {
	return func(yield func(int) bool) {
		var queue []int
		seen := make([]bool, len(bags))
		visit := func(i int) {
			if bags[i]&s == s && !seen[i] {
				seen[i] = true
				queue = append(queue, i)
			}
		}
		visit(slices.IndexFunc(bags, func(b sets.Set) bool { return b&s == s }))
		for k := 0; k < len(queue) && yield(queue[k]); k++ {
			for _, l := range links {
				switch queue[k] {
				case l[0]:
					visit(l[1])
				case l[1]:
					visit(l[0])
				}
			}
		}
	}
}
