package poly

import (
	"cmp"
	"slices"

	"olivette/api"
)

// Factor returns the last coefficient of f, and the powers of monic irreducible polynomials that make up the rest of it.
func Factor(p int, f []int) (int, []api.Factor, api.Errno) {
	if !arePolys(p, f) {
		return 0, nil, api.ErrArg
	}
	if len(f) == 0 {
		return 0, nil, api.ErrZero
	}
	rest, _ := monic(p, f)
	return f[len(f)-1], factors(p, rest), api.OK
}

// Irreducible reports whether f is not a constant, and not a product of polynomials of lesser degrees.
func Irreducible(p int, f []int) (bool, api.Errno) {
	if !arePolys(p, f) {
		return false, api.ErrArg
	}
	return isIrreducible(p, f), api.OK
}

// isIrreducible is Irreducible without errors.
func isIrreducible(p int, f []int) bool {
	if len(f) < 2 || len(divisorOf(p, f, derivative(p, f))) > 1 {
		return false
	}
	return len(fixed(p, f)) == 1
}

// factors returns the powers of monic irreducible polynomials whose product is f, which is monic, in their order.
func factors(p int, f []int) []api.Factor {
	var list []api.Factor
	times := 1
	for len(f) > 1 {
		slope := derivative(p, f)
		if len(slope) == 0 {
			f = rootOf(p, f)
			times *= p
			continue
		}
		// Each factor whose exponent p does not divide is in this quotient once.
		simple, _ := divide(p, f, divisorOf(p, f, slope))
		for _, part := range split(p, simple) {
			exp, rest := takeOut(p, f, part)
			list = append(list, api.Factor{Poly: part, Exp: exp * times})
			f = rest
		}
	}
	slices.SortFunc(list, func(a, b api.Factor) int { return order(a.Poly, b.Poly) })
	return list
}

// derivative expects an f that is not 0.
func derivative(p int, f []int) []int {
	slope := make([]int, len(f)-1)
	for i := range len(slope) {
		slope[i] = (i + 1) * f[i+1] % p
	}
	return trim(slope)
}

// rootOf returns the polynomial whose power with the exponent p is f, whose derivative is 0: each number is its own power.
func rootOf(p int, f []int) []int {
	root := make([]int, (len(f)-1)/p+1)
	for i := range len(root) {
		root[i] = f[i*p]
	}
	return root
}

// takeOut divides f by part as often as possible, and returns how often that is, and what is left.
func takeOut(p int, f, part []int) (int, []int) {
	exp := 0
	for {
		q, r := divide(p, f, part)
		if len(r) > 0 {
			return exp, f
		}
		f = q
		exp++
	}
}

// order compares by degrees, then by coefficients, that of the highest power first.
func order(f, g []int) int {
	c := cmp.Compare(len(f), len(g))
	for i := len(f) - 1; c == 0 && i >= 0; i-- {
		c = cmp.Compare(f[i], g[i])
	}
	return c
}

// split returns the irreducible factors of f, which is monic, of a degree from 1 on, and has no factor twice (by the way of Berlekamp).
func split(p int, f []int) [][]int {
	basis := fixed(p, f)
	parts := [][]int{f}
	// Modulo each factor of f, every one of the basis is a number, and any two factors differ in one of these numbers. The first of the basis, 1, tells none apart.
search:
	for _, v := range basis[1:] {
		for s := range p {
			if len(parts) == len(basis) {
				break search
			}
			parts = splitBy(p, parts, difference(p, v, trim([]int{s})))
		}
	}
	return parts
}

// splitBy splits each of the parts into what it has in common with v, and the rest.
func splitBy(p int, parts [][]int, v []int) [][]int {
	var list [][]int
	for _, part := range parts {
		common := divisorOf(p, part, v)
		if len(common) > 1 && len(common) < len(part) {
			rest, _ := divide(p, part, common)
			list = append(list, common, rest)
		} else {
			list = append(list, part)
		}
	}
	return list
}

// fixed returns a basis of the polynomials, of lesser degree than f, that are their own powers with the exponent p modulo f. It has as many elements as f has different irreducible factors.
func fixed(p int, f []int) [][]int {
	n := len(f) - 1
	matrix := make([][]int, n)
	for i := range n {
		matrix[i] = make([]int, n)
	}
	// Column j is what the power of x^j is more than x^j itself.
	step := raise(p, []int{0, 1}, p, f)
	power := []int{1}
	for j := range n {
		for i, c := range power {
			matrix[i][j] = c
		}
		matrix[j][j] = (matrix[j][j] + p - 1) % p
		power = remainder(p, product(p, power, step), f)
	}
	return kernel(p, matrix)
}
