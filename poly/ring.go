package poly

import (
	"slices"

	"olivette/prime"
)

// The functions of this file have new memory as their results. They take polynomials of any length, as a step may need more than MaxLength.

// combine joins the coefficients of each power; where a list has none, zero stands for it.
func combine[C any](f, g []C, zero C, join func(a, b C) C) []C {
	result := make([]C, max(len(f), len(g)))
	for i := range len(result) {
		a, b := zero, zero
		if i < len(f) {
			a = f[i]
		}
		if i < len(g) {
			b = g[i]
		}
		result[i] = join(a, b)
	}
	return result
}

func sum(p int, f, g []int) []int {
	return trim(combine(f, g, 0, func(a, b int) int { return (a + b) % p }))
}

func difference(p int, f, g []int) []int {
	return trim(combine(f, g, 0, func(a, b int) int { return (a - b + p) % p }))
}

// trim returns the list without the zeros at its end.
func trim(f []int) []int {
	n := len(f)
	for n > 0 && f[n-1] == 0 {
		n--
	}
	return f[:n]
}

func product(p int, f, g []int) []int {
	if len(f) == 0 || len(g) == 0 {
		return nil
	}
	h := make([]int, len(f)+len(g)-1)
	for i, a := range f {
		for j, b := range g {
			h[i+j] = (h[i+j] + a*b) % p
		}
	}
	return h
}

// divide returns the quotient and the remainder of f by g, which is not 0.
func divide(p int, f, g []int) ([]int, []int) {
	rest := slices.Clone(f)
	if len(f) < len(g) {
		return nil, rest
	}
	last := len(g) - 1
	inverse := inverseOf(p, g[last])
	quotient := make([]int, len(f)-last)
	for i := len(quotient) - 1; i >= 0; i-- {
		c := rest[i+last] * inverse % p
		quotient[i] = c
		if c != 0 {
			takeAway(p, rest[i:], c, g)
		}
	}
	return quotient, trim(rest[:last])
}

// takeAway changes rest to rest - c g, which is not longer.
func takeAway(p int, rest []int, c int, g []int) {
	for i, b := range g {
		rest[i] = (rest[i] + (p-c)*b) % p
	}
}

func remainder(p int, f, g []int) []int {
	_, r := divide(p, f, g)
	return r
}

// inverseOf expects a number from 1 to p - 1, which has an inverse, as p is a prime.
func inverseOf(p, a int) int {
	x, _ := prime.Inverse(a, p)
	return x
}

// monic returns f times a constant, so that it is monic, and that constant; 0 and 0 for 0.
func monic(p int, f []int) ([]int, []int) {
	if len(f) == 0 {
		return nil, nil
	}
	constant := []int{inverseOf(p, f[len(f)-1])}
	return product(p, f, constant), constant
}

// divisorOf returns the monic greatest common divisor of f and g.
func divisorOf(p int, f, g []int) []int {
	for len(g) > 0 {
		f, g = g, remainder(p, f, g)
	}
	d, _ := monic(p, f)
	return d
}

// divisorWith returns divisorOf, and the least a with which a f is that divisor, but for a multiple of g.
func divisorWith(p int, f, g []int) ([]int, []int) {
	// Throughout, a f is r, and b f is s, but for multiples of g. The degree of b grows as that of s falls: it becomes that of g divided by the divisor when s becomes 0, so that of a stays below it.
	r, s := f, g
	a, b := []int{1}, []int(nil)
	for len(s) > 0 {
		q, rest := divide(p, r, s)
		r, s = s, rest
		a, b = b, difference(p, a, product(p, q, b))
	}
	d, constant := monic(p, r)
	return d, product(p, a, constant)
}

// valueAt is Value without errors.
func valueAt(p int, f []int, x int) int {
	value := 0
	for i := range len(f) {
		value = (value*x + f[len(f)-1-i]) % p
	}
	return value
}

// raise returns the power of f with the exponent e, modulo g, whose degree is at least 1.
func raise(p int, f []int, e int, g []int) []int {
	result := []int{1}
	square := f
	for e > 0 {
		if e%2 == 1 {
			result = remainder(p, product(p, result, square), g)
		}
		square = remainder(p, product(p, square, square), g)
		e /= 2
	}
	return result
}
