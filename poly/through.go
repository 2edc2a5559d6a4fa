package poly

import "olivette/api"

// Through returns the polynomial of the least degree that has the second number of each point as its value at the first one.
func Through(p int, points [][2]int) ([]int, api.Errno) {
	if !isField(p) || !arePoints(p, points) {
		return nil, api.ErrArg
	}
	var f []int
	zero := []int{1} // 0 at the points so far, so that its multiples leave their values
	for _, point := range points {
		x, y := point[0], point[1]
		gap := y - valueAt(p, f, x) + p
		times := gap * inverseOf(p, valueAt(p, zero, x)) % p
		f = sum(p, f, trim(product(p, zero, []int{times})))
		zero = product(p, zero, []int{(p - x) % p, 1})
	}
	return f, api.OK
}

// arePoints reports whether the points are such as Through takes.
func arePoints(p int, points [][2]int) bool {
	if len(points) > api.MaxLength {
		return false
	}
	seen := map[int]bool{}
	for _, point := range points {
		if !isCoefficient(p, point[0]) || !isCoefficient(p, point[1]) || seen[point[0]] {
			return false
		}
		seen[point[0]] = true
	}
	return true
}
