package sets_test

import (
	"math"
	"slices"
	"testing"

	"olivette/sets"
)

// The sets of the planar layer and of the tree layer, for the ends of the range too.
func TestSets(t *testing.T) {
	for _, list := range [][]int{nil, {0}, {31}, {3, 5, 8}, {0, 1, 30, 31}} {
		s := sets.Of(list)
		if !slices.Equal(s.List(), list) || s.Size() != len(list) {
			t.Errorf("%v: %v, %d", list, s.List(), s.Size())
		}
		for v := range 32 {
			if s.Has(v) != slices.Contains(list, v) {
				t.Errorf("%v: %d", list, v)
			}
		}
		for _, v := range []int{-1, -2, 32, 33, 63, 64, 1 << 32, math.MaxInt, math.MinInt} {
			if s.Has(v) {
				t.Errorf("%v: %d", list, v)
			}
		}
		if len(list) > 0 && s.Least() != list[0] {
			t.Errorf("%v: %d", list, s.Least())
		}
	}
	for n := range 33 {
		if s := sets.Below(n); s.Size() != n || s.Has(n) {
			t.Errorf("Below(%d) = %v", n, s.List())
		}
	}
	for v := range sets.Of([]int{2, 4, 6}).All() {
		if v == 4 {
			break
		}
		if v != 2 {
			t.Errorf("%d", v)
		}
	}
}

func TestNeighbors(t *testing.T) {
	near, ok := sets.Neighbors(5, [][2]int{{0, 1}, {2, 1}, {4, 3}})
	if !ok || len(near) != 5 {
		t.Fatalf("%v, %t", near, ok)
	}
	for v, list := range [][]int{{1}, {0, 2}, {1}, {4}, {3}} {
		if !slices.Equal(near[v].List(), list) {
			t.Errorf("%d: %v", v, near[v].List())
		}
	}
	if s := sets.Near(near, sets.Of([]int{0, 2, 4})); !slices.Equal(s.List(), []int{1, 3}) {
		t.Errorf("Near: %v", s.List())
	}
	all := sets.Below(5)
	for _, c := range []struct {
		v            int
		inside, want sets.Set
	}{
		{0, all, sets.Of([]int{0, 1, 2})}, {3, all, sets.Of([]int{3, 4})}, {0, all &^ sets.Only(1), sets.Only(0)},
		{1, sets.Only(2), sets.Of([]int{1, 2})}, {1, 0, sets.Only(1)},
	} {
		if s := sets.Group(near, c.v, c.inside); s != c.want {
			t.Errorf("Group(%d, %v) = %v", c.v, c.inside.List(), s.List())
		}
	}
	for _, edges := range [][][2]int{{{0, 0}}, {{0, 1}, {1, 0}}, {{0, 1}, {0, 1}}, {{0, 3}}, {{3, 0}}, {{-1, 0}}, {{0, -1}}, {{math.MinInt, 0}}, {{0, math.MaxInt}}} {
		if near, ok := sets.Neighbors(3, edges); ok || near != nil {
			t.Errorf("Neighbors(3, %v) = %v", edges, near)
		}
	}
}
