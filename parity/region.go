package parity

import (
	"iter"
	"slices"

	"olivette/api"
)

// region is a set of positions.
type region [api.MaxPositions]bool

// positions visits the positions in ascending order, as they were when the visit began.
func (r region) positions() iter.Seq[int] {
	return func(yield func(int) bool) {
		for v, inside := range r {
			if inside && !yield(v) {
				return
			}
		}
	}
}

// regionOf returns the set of the positions in the list.
func regionOf(list []int) region {
	var r region
	for _, v := range list {
		r[v] = true
	}
	return r
}

func (r region) list() []int {
	return slices.Collect(r.positions())
}

func (r region) with(other region) region {
	for v := range other.positions() {
		r[v] = true
	}
	return r
}

func (r region) without(other region) region {
	for v := range other.positions() {
		r[v] = false
	}
	return r
}
