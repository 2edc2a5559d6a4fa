package prime

import "olivette/api"

// Generator returns the least number whose powers are all the numbers from 1 to p - 1, modulo the prime p.
func Generator(p int) (int, api.Errno) {
	if !isPrime(p) {
		return 0, api.ErrArg
	}
	return leastGenerator(p, primesOf(p-1)), api.OK
}

// Root returns the least number, not negative, whose square is a modulo the prime p.
func Root(a, p int) (int, api.Errno) {
	if !isRest(a, p) || !isPrime(p) {
		return 0, api.ErrArg
	}
	if a == 0 || p == 2 {
		return a, api.OK
	}
	if !isSquare(a, p) {
		return 0, api.ErrNone
	}
	root := rootOf(a, p)
	return min(root, p-root), api.OK
}

// Log returns the least exponent, not negative, with which the power of g is a modulo the prime p.
func Log(g, a, p int) (int, api.Errno) {
	if !isRest(g, p) || !isRest(a, p) || g == 0 || a == 0 || !isPrime(p) {
		return 0, api.ErrArg
	}
	order := orderOf(g, p)
	// The numbers from 1 to p - 1 are all powers of one of them, so those of g are all whose order divides that of g.
	if raise(a, order, p) != 1 {
		return 0, api.ErrNone
	}
	return logOf(g, a, p, order), api.OK
}

// leastGenerator is Generator for a prime p, with the primes that divide p - 1.
func leastGenerator(p int, primes []int) int {
	g := 1
search:
	for ; g < p; g++ {
		if generates(g, p, primes) {
			break search
		}
	}
	return g
}

// generates reports whether no power of g with the exponent (p - 1) / q is 1 modulo p, for each q of primes.
func generates(g, p int, primes []int) bool {
	for _, q := range primes {
		if raise(g, (p-1)/q, p) == 1 {
			return false
		}
	}
	return true
}

// isSquare reports whether a, from 1 to p - 1, is a square modulo the odd prime p.
func isSquare(a, p int) bool {
	return raise(a, (p-1)/2, p) == 1
}

// rootOf returns one of the two roots of the square a, modulo the odd prime p (by the way of Tonelli and Shanks).
func rootOf(a, p int) int {
	odd, twos := p-1, 0
	for odd%2 == 0 {
		odd /= 2
		twos++
	}
	// Throughout, the square of root is a * excess, the order of turn is 2^twos, and that of excess is a lesser power of 2.
	turn := raise(leastOther(p), odd, p)
	root := raise(a, (odd+1)/2, p)
	excess := raise(a, odd, p)
	for excess != 1 {
		halvings := squarings(excess, p)
		step := raise(turn, 1<<(twos-halvings-1), p)
		root = root * step % p
		turn = step * step % p
		excess = excess * turn % p
		twos = halvings
	}
	return root
}

// leastOther returns the least number that is not a square modulo the odd prime p.
func leastOther(p int) int {
	a := 2
	for isSquare(a, p) {
		a++
	}
	return a
}

// squarings returns how often x, whose order is a power of 2, is squared to become 1.
func squarings(x, p int) int {
	count := 0
	for x != 1 {
		x = x * x % p
		count++
	}
	return count
}

// logOf is Log for an a that is a power of g, whose order is given: an exponent is looked for as i * width + j.
func logOf(g, a, p, order int) int {
	width := rootUp(order)
	steps := make(map[int]int, width)
	stride := 1
	for j := range width {
		steps[stride] = j
		stride = stride * g % p
	}
	back := invert(stride, p)
	log := 0
search:
	for i := range width {
		if j, ok := steps[a]; ok {
			// The first i is the least one, and all that is kept has one j, as width is at most the order.
			log = i*width + j
			break search
		}
		a = a * back % p
	}
	return log
}

// rootUp returns the least width whose square is at least n.
func rootUp(n int) int {
	width := 1
	for width*width < n {
		width++
	}
	return width
}
