// Package prime is layer 1: whole numbers, and primes with proofs (see shared/doc/01-prime.md).
package prime

import "olivette/api"

// Factor returns the powers of primes whose product is n, in ascending order of the primes.
func Factor(n int) ([]api.Power, api.Errno) {
	if !isNumber(n) {
		return nil, api.ErrArg
	}
	return factors(n), api.OK
}

func isNumber(n int) bool {
	return n >= 1 && n <= api.MaxNumber
}

// isPrime accepts any int: factors must not be asked about one that is not a number.
func isPrime(n int) bool {
	return n > 1 && isNumber(n) && factors(n)[0].Prime == n
}

// factors is Factor for what is known to be a number.
func factors(n int) []api.Power {
	var list []api.Power
	rest := n
	take := func(d int) {
		exp := 0
		for rest%d == 0 {
			rest /= d
			exp++
		}
		if exp > 0 {
			list = append(list, api.Power{Prime: d, Exp: exp})
		}
	}
	take(2)
	// What is taken has no lesser divisor left in rest, so it is prime.
	for d := 3; d*d <= rest; d += 2 {
		take(d)
	}
	if rest > 1 {
		take(rest)
	}
	return list
}

// primesOf returns the primes that divide the number n, in ascending order.
func primesOf(n int) []int {
	var primes []int
	for _, f := range factors(n) {
		primes = append(primes, f.Prime)
	}
	return primes
}
