package tree

import (
	"slices"

	"olivette/api"
	"olivette/sets"
)

// table has, for a bag, a value for each state of the vertices around the bag's own.
type table[S comparable, V any] struct {
	around sets.Set
	values map[S]V
}

// climb makes a table for each bag, after those for the bags that hang at it, from which value returns what belongs to the bag's vertex v and a state s of those around. It returns the tables of the bags that hang at none.
func climb[S comparable, V any](g graph, states func(around sets.Set) []S, value func(v int, s S, below []table[S, V]) V) []table[S, V] {
	var below [none + 1][]table[S, V]
	for b := range g.bags(g.best()) {
		values := map[S]V{}
		for _, s := range states(b.around) {
			values[s] = value(b.vertex, s, below[b.vertex])
		}
		below[b.at] = append(below[b.at], table[S, V]{b.around, values})
	}
	return below[none]
}

// colouring has the colour of each vertex, from 1 on, or 0 if it has none. In tables, the first vertex that has one has 1, and each new colour is the next one: such a colouring stands for all that differ from it by the names of colours.
type colouring [api.MaxSmall]int8

func (c colouring) used() int {
	return int(slices.Max(c[:]))
}

// on returns the colouring of s only, whose vertices all have colours, as it is in tables.
func (c colouring) on(s sets.Set) colouring {
	var part colouring
	var names [maxColours + 1]int8
	var used int8
	for v := range s.All() {
		if names[c[v]] == 0 {
			used++
			names[c[v]] = used
		}
		part[v] = names[c[v]]
	}
	return part
}

// colourings returns those of the vertices of s with at most k colours.
func (g graph) colourings(s sets.Set, k int) []colouring {
	list := []colouring{{}}
	for v := range s.All() {
		var next []colouring
		for _, c := range list {
			next = append(next, g.coloured(c, v, k)...)
		}
		list = next
	}
	return list
}

// coloured returns c with each colour for v that none of its neighbors has: one of those in use, or a new one, if there are k.
func (g graph) coloured(c colouring, v, k int) []colouring {
	var taken [maxColours + 1]bool
	for u := range g[v].All() {
		taken[c[u]] = true
	}
	var list []colouring
	for i := range min(c.used()+1, k) {
		if colour := i + 1; !taken[colour] {
			c[v] = int8(colour)
			list = append(list, c)
		}
	}
	return list
}

// countColourings keeps for each bag in how many ways the vertices removed below can be coloured, for each colouring of those around.
func countColourings(g graph, k int) int {
	states := func(around sets.Set) []colouring { return g.colourings(around, k) }
	value := func(v int, c colouring, below []table[colouring, int]) int {
		sum := 0
		for _, with := range g.coloured(c, v, k) {
			ways := waysBelow(with, below)
			if with.used() > c.used() {
				ways *= k - c.used()
			}
			sum += ways
		}
		return sum
	}
	return waysBelow(colouring{}, climb(g, states, value))
}

func waysBelow(c colouring, below []table[colouring, int]) int {
	ways := 1
	for _, t := range below {
		ways *= t.values[c.on(t.around)]
	}
	return ways
}

// tally is a number of sets, and the greatest size of one of them.
type tally struct {
	number, size int
}

// apart returns the sets of vertices of s without neighbors in them.
func (g graph) apart(s sets.Set) []sets.Set {
	list := []sets.Set{0}
	for v := range s.All() {
		for _, t := range list {
			if t&g[v] == 0 {
				list = append(list, t|sets.Only(v))
			}
		}
	}
	return list
}

// tallyApart keeps for each bag the sets of the vertices removed below, for each set of those around.
func tallyApart(g graph) tally {
	value := func(v int, s sets.Set, below []table[sets.Set, tally]) tally {
		all := tallyBelow(s, below)
		if s&g[v] == 0 {
			with := tallyBelow(s|sets.Only(v), below)
			all.number += with.number
			all.size = max(all.size, with.size+1)
		}
		return all
	}
	return tallyBelow(0, climb(g, g.apart, value))
}

func tallyBelow(s sets.Set, below []table[sets.Set, tally]) tally {
	all := tally{number: 1}
	for _, t := range below {
		part := t.values[s&t.around]
		all.number *= part.number
		all.size += part.size
	}
	return all
}
