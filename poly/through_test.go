package poly_test

import (
	"math"
	"math/rand"
	"slices"
	"testing"

	"olivette/api"
	"olivette/poly"
)

// checkThrough decides by the values: of a degree less than the number of points, only one polynomial has them.
func checkThrough(t *testing.T, p int, points [][2]int) {
	t.Helper()
	before := slices.Clone(points)
	f, e := poly.Through(p, points)
	if e != api.OK || !isPoly(p, f) || len(f) > len(points) {
		t.Errorf("Through(%d, %v) = %v, %d", p, points, f, e)
		return
	}
	for _, point := range points {
		if y, _ := poly.Value(p, f, point[0]); y != point[1] {
			t.Errorf("Through(%d, %v) = %v: %d at %d", p, points, f, y, point[0])
		}
	}
	if !slices.Equal(points, before) {
		t.Errorf("Through changes %v to %v", before, points)
	}
}

// P2.2: all values of small fields, and points of great ones in any order.
func TestThrough(t *testing.T) {
	for _, p := range []int{2, 3, 5} {
		for x := range p * p * p * p * p {
			var points [][2]int
			for i := range p {
				points = append(points, [2]int{i, x % p})
				checkThrough(t, p, points)
				checkThrough(t, p, points[i/2:])
				x /= p
			}
		}
	}
	random := rand.New(rand.NewSource(1))
	for _, p := range somePrimes {
		for range 60 {
			var points [][2]int
			for _, x := range random.Perm(p)[:random.Intn(min(p, api.MaxLength)+1)] {
				points = append(points, [2]int{x, random.Intn(p)})
			}
			checkThrough(t, p, points)
		}
	}
}

// P2.2: the edges that the chapter names.
func TestThroughEdges(t *testing.T) {
	f, e := poly.Through(5, nil)
	wantPoly(t, "no points", f, e, nil, api.OK)
	f, e = poly.Through(5, [][2]int{})
	wantPoly(t, "no points", f, e, nil, api.OK)
	f, e = poly.Through(5, [][2]int{{4, 0}})
	wantPoly(t, "the value 0", f, e, nil, api.OK)
	f, e = poly.Through(5, [][2]int{{4, 3}, {1, 3}, {0, 3}})
	wantPoly(t, "a constant", f, e, []int{3}, api.OK)
	f, e = poly.Through(5, [][2]int{{0, 1}, {1, 2}, {2, 0}})
	wantPoly(t, "x^2 + 1", f, e, []int{1, 0, 1}, api.OK)
	var line [][2]int
	for x := range api.MaxLength {
		line = append(line, [2]int{x, 1000 - x})
	}
	f, e = poly.Through(api.MaxField, line)
	wantPoly(t, "a line through 33 points", f, e, []int{1000, api.MaxField - 1}, api.OK)
	line[32][1] = 0
	f, e = poly.Through(api.MaxField, line)
	if e != api.OK || len(f) != api.MaxLength {
		t.Errorf("the greatest degree: %v, %d", f, e)
	}
}

// P2.2: points that are not as described.
func TestThroughErrors(t *testing.T) {
	refuse := func(p int, points [][2]int) {
		t.Helper()
		f, e := poly.Through(p, points)
		if len(points) > 40 {
			points = points[:40]
		}
		if len(f) != 0 || e != api.ErrArg {
			t.Errorf("Through(%d, %v) = %v, %d", p, points, f, e)
		}
	}
	for _, p := range notFields {
		refuse(p, nil)
		refuse(p, [][2]int{{0, 0}})
	}
	for _, p := range somePrimes {
		for _, bad := range []int{-1, p, p + 1, -p, math.MaxInt, math.MinInt} {
			refuse(p, [][2]int{{bad, 0}})
			refuse(p, [][2]int{{0, bad}})
			refuse(p, [][2]int{{0, 0}, {1, bad}})
			refuse(p, [][2]int{{0, 0}, {bad, 1}})
		}
		refuse(p, [][2]int{{1, 0}, {0, 0}, {1, 1}})
		refuse(p, [][2]int{{1, 0}, {0, 0}, {1, 0}})
		refuse(p, make([][2]int, 2))
		refuse(p, make([][2]int, 100000))
	}
	var many [][2]int
	for x := range api.MaxLength + 1 {
		many = append(many, [2]int{x, 0})
	}
	refuse(api.MaxField, many)
	checkThrough(t, api.MaxField, many[1:])
}

// P2.5: interpolation through values of f returns f, if there are enough points.
func TestThroughValues(t *testing.T) {
	random := rand.New(rand.NewSource(2))
	for _, p := range somePrimes {
		for range 40 {
			f := randomPoly(random, p, random.Intn(min(p, api.MaxLength)+1))
			number := len(f) + random.Intn(min(p, api.MaxLength)-len(f)+1)
			var points [][2]int
			for _, x := range random.Perm(p)[:number] {
				y, _ := poly.Value(p, f, x)
				points = append(points, [2]int{x, y})
			}
			g, e := poly.Through(p, points)
			wantPoly(t, "values of a polynomial", g, e, f, api.OK)
		}
	}
}
