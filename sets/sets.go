// Package sets has sets of vertices, for the layers whose graphs are small.
package sets

import (
	"iter"
	"math/bits"
	"slices"
)

// Set is a set of numbers from 0 to 31, each of which has a bit.
type Set uint32

// Only returns the set of v.
func Only(v int) Set {
	return 1 << v
}

// Of returns the set of the numbers in the list.
func Of(list []int) Set {
	var s Set
	for _, v := range list {
		s |= Only(v)
	}
	return s
}

// Below returns the set of the numbers from 0 to n - 1.
func Below(n int) Set {
	return Only(n) - 1
}

// Has returns whether v, which may be any number, is in the set.
func (s Set) Has(v int) bool {
	return v >= 0 && s&Only(v) != 0
}

// Size returns how many numbers are in the set.
func (s Set) Size() int {
	return bits.OnesCount32(uint32(s))
}

// Least returns the least number of a set that is not empty.
func (s Set) Least() int {
	return bits.TrailingZeros32(uint32(s))
}

// All visits the numbers in ascending order.
func (s Set) All() iter.Seq[int] {
	return func(yield func(int) bool) {
		for rest := s; rest != 0; rest &= rest - 1 {
			if !yield(rest.Least()) {
				return
			}
		}
	}
}

// List returns the numbers in ascending order.
func (s Set) List() []int {
	return slices.Collect(s.All())
}

// Neighbors returns the set of the neighbors of each of n vertices, or false if an edge is not a pair of different ones, or two edges join the same ones. It expects an n from 0 to 32.
func Neighbors(n int, edges [][2]int) ([]Set, bool) {
	near, all := make([]Set, n), Below(n)
	for _, e := range edges {
		u, v := e[0], e[1]
		if !all.Has(u) || !all.Has(v) || u == v || near[u].Has(v) {
			return nil, false
		}
		near[u] |= Only(v)
		near[v] |= Only(u)
	}
	return near, true
}

// Near returns the union of the sets at the places that are in s: all neighbors of its vertices.
func Near(near []Set, s Set) Set {
	var all Set
	for v := range s.All() {
		all |= near[v]
	}
	return all
}

// Group returns the vertices that hang together with v by edges within inside.
func Group(near []Set, v int, inside Set) Set {
	group, fresh := Only(v), Only(v)
	for fresh != 0 {
		fresh = Near(near, fresh) & inside &^ group
		group |= fresh
	}
	return group
}
