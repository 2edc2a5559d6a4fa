package prime

import "olivette/api"

// Power returns the power of a with the exponent e, modulo m.
func Power(a, e, m int) (int, api.Errno) {
	if !isRest(a, m) || e < 0 {
		return 0, api.ErrArg
	}
	return raise(a, e, m), api.OK
}

// Inverse returns the least number, not negative, whose product with a is 1 modulo m.
func Inverse(a, m int) (int, api.Errno) {
	if !isRest(a, m) {
		return 0, api.ErrArg
	}
	if gcd(a, m) != 1 {
		return 0, api.ErrNone
	}
	return invert(a, m), api.OK
}

// Order returns the least exponent from 1 on with which the power of a is 1 modulo m.
func Order(a, m int) (int, api.Errno) {
	if !isRest(a, m) {
		return 0, api.ErrArg
	}
	if gcd(a, m) != 1 {
		return 0, api.ErrNone
	}
	return orderOf(a, m), api.OK
}

// isRest reports whether m is a number, and a a rest modulo it.
func isRest(a, m int) bool {
	return isNumber(m) && a >= 0 && a < m
}

// raise is Power without errors. The product of two rests is less than 2^62, so no step leaves the range of int.
func raise(a, e, m int) int {
	result := 1 % m
	square := a
	for e > 0 {
		if e%2 == 1 {
			result = result * square % m
		}
		square = square * square % m
		e /= 2
	}
	return result
}

func gcd(a, b int) int {
	for b != 0 {
		a, b = b, a%b
	}
	return a
}

// invert is Inverse for an a that has no divisor with m in common.
func invert(a, m int) int {
	// Throughout, x * a is r, and y * a is s, modulo m.
	r, s := m, a
	x, y := 0, 1
	for s != 0 {
		q := r / s
		r, s = s, r-q*s
		x, y = y, x-q*y
	}
	if x < 0 {
		x += m
	}
	return x
}

// orderOf is Order for an a that has no divisor with m in common.
func orderOf(a, m int) int {
	order := unitsOf(m)
	for _, q := range primesOf(order) {
		for order%q == 0 && raise(a, order/q, m) == 1 {
			order /= q
		}
	}
	return order
}

// unitsOf returns how many rests modulo m have an inverse.
func unitsOf(m int) int {
	units := m
	for _, q := range primesOf(m) {
		units = units / q * (q - 1)
	}
	return units
}
