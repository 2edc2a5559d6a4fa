package poly

import "olivette/api"

const (
	maxDegree = api.MaxLength - 1
	maxCount  = 1 << 53 // the result of Count
	// maxPower bounds p^n where Count is in reach: at least half of p^n is left for the degree n, and each one takes n, at most 32, of it.
	maxPower = maxCount * 2 * maxDegree
)

// Count returns the number of monic irreducible polynomials of the degree n.
func Count(p, n int) (int, api.Errno) {
	if !isField(p) || !isDegree(n) {
		return 0, api.ErrArg
	}
	power := 1
	for range n {
		if power > maxPower/p {
			return 0, api.ErrFull
		}
		power *= p
	}
	count := countOf(p, n)
	if count > maxCount {
		return 0, api.ErrFull
	}
	return count, api.OK
}

// First returns the first monic irreducible polynomial of the degree n.
func First(p, n int) ([]int, api.Errno) {
	if !isField(p) || !isDegree(n) {
		return nil, api.ErrArg
	}
	f := make([]int, n+1)
	f[n] = 1
	for !isIrreducible(p, f) {
		advance(p, f)
	}
	return f, api.OK
}

func isDegree(n int) bool {
	return n >= 1 && n <= maxDegree
}

// countOf is Count without errors: the polynomials whose degrees divide n have a product of the degree p^n.
func countOf(p, n int) int {
	left := 1
	for range n {
		left *= p
	}
	for d := 1; d < n; d++ {
		if n%d == 0 {
			left -= d * countOf(p, d)
		}
	}
	return left / n
}

// advance changes f to the next polynomial of its degree in their order, where there is one with this last coefficient.
func advance(p int, f []int) {
	i := 0
	for f[i] == p-1 {
		f[i] = 0
		i++
	}
	f[i]++
}
