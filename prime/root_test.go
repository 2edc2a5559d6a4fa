package prime_test

import (
	"fmt"
	"math/rand"
	"testing"

	"olivette/api"
	"olivette/prime"
)

// P1.3: by the definition, for all small primes.
func TestRootsSmall(t *testing.T) {
	for _, p := range primesBelow(300) {
		g, e := prime.Generator(p)
		want(t, fmt.Sprintf("Generator(%d)", p), g, e, plainGenerator(p), api.OK)
		for a := range p {
			x, errno := plainRoot(a, p)
			n, e := prime.Root(a, p)
			want(t, fmt.Sprintf("Root(%d, %d)", a, p), n, e, x, errno)
		}
	}
	for _, p := range primesBelow(50) {
		for g := 1; g < p; g++ {
			for a := 1; a < p; a++ {
				x, errno := plainLog(g, a, p)
				n, e := prime.Log(g, a, p)
				want(t, fmt.Sprintf("Log(%d, %d, %d)", g, a, p), n, e, x, errno)
			}
		}
	}
}

func plainGenerator(p int) int {
	for g := 1; g < p; g++ {
		if n, _ := plainOrder(g, p); n == p-1 {
			return g
		}
	}
	return 0
}

func plainRoot(a, p int) (int, api.Errno) {
	for x := range p {
		if x*x%p == a {
			return x, api.OK
		}
	}
	return 0, api.ErrNone
}

func plainLog(g, a, p int) (int, api.Errno) {
	x := 1
	for e := range p {
		if x == a {
			return e, api.OK
		}
		x = x * g % p
	}
	return 0, api.ErrNone
}

// P1.3: the least primes, and the examples.
func TestRootsEdges(t *testing.T) {
	generators := map[int]int{2: 1, 3: 2, 5: 2, 7: 3, 41: 6, 65537: 3, 998244353: 3, 2013265921: 31, mersenne: 7}
	for p, g := range generators {
		n, e := prime.Generator(p)
		want(t, fmt.Sprintf("Generator(%d)", p), n, e, g, api.OK)
	}
	roots := [][4]int{{0, 2, 0, 0}, {1, 2, 1, 0}, {0, 3, 0, 0}, {1, 3, 1, 0}, {2, 3, 0, 6}, {2, 7, 3, 0}, {3, 7, 0, 6}, {2, 17, 6, 0}, {0, mersenne, 0, 0}, {1, mersenne, 1, 0}, {4, mersenne, 2, 0}, {mersenne - 1, mersenne, 0, 6}}
	for _, c := range roots {
		n, e := prime.Root(c[0], c[1])
		want(t, fmt.Sprintf("Root(%d, %d)", c[0], c[1]), n, e, c[2], api.Errno(c[3]))
	}
	logs := [][5]int{{1, 1, 2, 0, 0}, {1, 1, 3, 0, 0}, {1, 2, 3, 0, 6}, {2, 2, 3, 1, 0}, {3, 6, 7, 3, 0}, {2, 1, 7, 0, 0}, {2, 3, 7, 0, 6}, {6, 6, 7, 1, 0}, {7, mersenne - 1, mersenne, (mersenne - 1) / 2, 0}, {2, 1 << 30, mersenne, 30, 0}, {2, 3, mersenne, 0, 6}, {mersenne - 1, 1, mersenne, 0, 0}}
	for _, c := range logs {
		n, e := prime.Log(c[0], c[1], c[2])
		want(t, fmt.Sprintf("Log(%d, %d, %d)", c[0], c[1], c[2]), n, e, c[3], api.Errno(c[4]))
	}
}

// P1.3: of great primes, each result is the least of its kind.
func TestRootsLarge(t *testing.T) {
	random := rand.New(rand.NewSource(3))
	for _, p := range largePrimes {
		g, e := prime.Generator(p)
		if n, _ := prime.Order(g, p); e != api.OK || n != p-1 {
			t.Errorf("Generator(%d) = %d, %d", p, g, e)
		}
		for a := 1; a < g; a++ {
			if n, _ := prime.Order(a, p); n == p-1 {
				t.Errorf("Generator(%d) = %d, and not %d", p, g, a)
			}
		}
		for range 60 {
			x := random.Intn(p)
			square := x * x % p
			n, e := prime.Root(square, p)
			want(t, fmt.Sprintf("Root(%d, %d)", square, p), n, e, min(x, p-x), api.OK)
			// A generator times a square, other than 0, is no square.
			if square > 0 {
				n, e = prime.Root(square*g%p, p)
				want(t, fmt.Sprintf("Root(%d, %d)", square*g%p, p), n, e, 0, api.ErrNone)
			}
		}
		for range 6 {
			base, exp := 1+random.Intn(p-1), random.Intn(p)
			a, _ := prime.Power(base, exp, p)
			order, _ := prime.Order(base, p)
			n, e := prime.Log(base, a, p)
			want(t, fmt.Sprintf("Log(%d, %d, %d)", base, a, p), n, e, exp%order, api.OK)
			n, e = prime.Log(g*g%p, g, p)
			want(t, fmt.Sprintf("Log(%d, %d, %d)", g*g%p, g, p), n, e, 0, api.ErrNone)
		}
	}
}

// P1.3: arguments that are not as described, which come before ErrNone.
func TestRootErrors(t *testing.T) {
	notPrimes := append([]int{1, 4, 6, 8, 9, 15, 25, 49, 341, 561, 2047, 46337 * 46337, mersenne - 1}, notNumbers...)
	for _, p := range notPrimes {
		n, e := prime.Generator(p)
		want(t, fmt.Sprintf("Generator(%d)", p), n, e, 0, api.ErrArg)
		for _, a := range append([]int{0, 1, 2, 3, p - 1, p}, oddInts...) {
			n, e = prime.Root(a, p)
			want(t, fmt.Sprintf("Root(%d, %d)", a, p), n, e, 0, api.ErrArg)
			n, e = prime.Log(a, 1, p)
			want(t, fmt.Sprintf("Log(%d, 1, %d)", a, p), n, e, 0, api.ErrArg)
			n, e = prime.Log(1, a, p)
			want(t, fmt.Sprintf("Log(1, %d, %d)", a, p), n, e, 0, api.ErrArg)
		}
	}
	for _, p := range []int{2, 3, 7, 46337, mersenne} {
		for _, a := range append([]int{p, p + 1, -p, 2 * p}, oddInts...) {
			if a < 0 || a >= p {
				n, e := prime.Root(a, p)
				want(t, fmt.Sprintf("Root(%d, %d)", a, p), n, e, 0, api.ErrArg)
			}
			if a < 1 || a >= p {
				n, e := prime.Log(a, 1, p)
				want(t, fmt.Sprintf("Log(%d, 1, %d)", a, p), n, e, 0, api.ErrArg)
				n, e = prime.Log(1, a, p)
				want(t, fmt.Sprintf("Log(1, %d, %d)", a, p), n, e, 0, api.ErrArg)
			}
		}
	}
}

// P1.5: logarithms to a generator turn products into sums modulo p - 1.
func TestLogProducts(t *testing.T) {
	random := rand.New(rand.NewSource(4))
	for _, p := range append(primesBelow(60), largePrimes...) {
		g, _ := prime.Generator(p)
		for range 5 {
			a, b := 1+random.Intn(p-1), 1+random.Intn(p-1)
			x, e1 := prime.Log(g, a, p)
			y, e2 := prime.Log(g, b, p)
			z, e3 := prime.Log(g, a*b%p, p)
			if e1 != api.OK || e2 != api.OK || e3 != api.OK || (x+y)%(p-1) != z {
				t.Errorf("Log modulo %d of %d, %d and their product: %d, %d, %d", p, a, b, x, y, z)
			}
		}
	}
}
