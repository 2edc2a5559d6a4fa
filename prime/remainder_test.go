package prime_test

import (
	"fmt"
	"math"
	"math/rand"
	"testing"

	"olivette/api"
	"olivette/prime"
)

// P1.2: by the definition, for all small moduli.
func TestRemaindersSmall(t *testing.T) {
	for m := 1; m <= 60; m++ {
		for a := range m {
			for e := range 70 {
				n, errno := prime.Power(a, e, m)
				want(t, fmt.Sprintf("Power(%d, %d, %d)", a, e, m), n, errno, plainPower(a, e, m), api.OK)
			}
			x, errno := plainInverse(a, m)
			n, got := prime.Inverse(a, m)
			want(t, fmt.Sprintf("Inverse(%d, %d)", a, m), n, got, x, errno)
			x, errno = plainOrder(a, m)
			n, got = prime.Order(a, m)
			want(t, fmt.Sprintf("Order(%d, %d)", a, m), n, got, x, errno)
		}
	}
}

func plainInverse(a, m int) (int, api.Errno) {
	for x := range m {
		if a*x%m == 1%m {
			return x, api.OK
		}
	}
	return 0, api.ErrNone
}

func plainOrder(a, m int) (int, api.Errno) {
	x := 1
	for e := 1; e <= m; e++ {
		x = x * a % m
		if x == 1%m {
			return e, api.OK
		}
	}
	return 0, api.ErrNone
}

// P1.2: the edges that the chapter names, and great numbers.
func TestRemaindersEdges(t *testing.T) {
	powers := [][4]int{{0, 0, 1, 0}, {0, 5, 1, 0}, {0, 0, 2, 1}, {0, 0, mersenne, 1}, {0, 1, 7, 0}, {0, math.MaxInt, 7, 0}, {1, math.MaxInt, 7, 1},
		{3, 200, 13, 9}, {2, 30, mersenne, 1 << 30}, {2, 31, mersenne, 1}, {mersenne - 1, 2, mersenne, 1}, {mersenne - 1, math.MaxInt, mersenne, mersenne - 1},
		{mersenne - 2, math.MaxInt, mersenne - 1, mersenne - 2}, {7, mersenne - 1, mersenne, 1}}
	for _, c := range powers {
		n, e := prime.Power(c[0], c[1], c[2])
		want(t, fmt.Sprintf("Power(%d, %d, %d)", c[0], c[1], c[2]), n, e, c[3], api.OK)
	}
	n, e := prime.Inverse(0, 1)
	want(t, "Inverse(0, 1)", n, e, 0, api.OK)
	n, e = prime.Order(0, 1)
	want(t, "Order(0, 1)", n, e, 1, api.OK)
	n, e = prime.Order(7, mersenne)
	want(t, "Order(7, mersenne)", n, e, mersenne-1, api.OK)
	n, e = prime.Order(2, mersenne)
	want(t, "Order(2, mersenne)", n, e, 31, api.OK)
	n, e = prime.Order(3, 1<<30)
	want(t, "Order(3, 2^30)", n, e, 1<<28, api.OK)
	n, e = prime.Inverse(mersenne-1, mersenne)
	want(t, "Inverse(mersenne - 1, mersenne)", n, e, mersenne-1, api.OK)
	n, e = prime.Inverse(2, mersenne-1)
	want(t, "Inverse(2, mersenne - 1)", n, e, 0, api.ErrNone)
	n, e = prime.Order(46337, 46337*46337)
	want(t, "Order(46337, 46337^2)", n, e, 0, api.ErrNone)
}

// P1.2: of great moduli, inverses and orders are what they are defined to be.
func TestRemaindersLarge(t *testing.T) {
	random := rand.New(rand.NewSource(1))
	for range 300 {
		m := 1<<30 + random.Intn(1<<30)
		a := random.Intn(m)
		x, e := prime.Inverse(a, m)
		if e == api.OK && (x < 0 || x >= m || a*x%m != 1) || e != api.OK && (e != api.ErrNone || x != 0 || common(a, m) == 1) {
			t.Errorf("Inverse(%d, %d) = %d, %d", a, m, x, e)
		}
		n, e := prime.Order(a, m)
		if e != api.OK {
			if e != api.ErrNone || n != 0 || common(a, m) == 1 {
				t.Errorf("Order(%d, %d) = %d, %d", a, m, n, e)
			}
			continue
		}
		y, _ := prime.Power(a, n, m)
		list, _ := prime.Factor(n)
		for _, f := range list {
			if z, _ := prime.Power(a, n/f.Prime, m); z == 1 {
				y = 0
			}
		}
		if y != 1 {
			t.Errorf("Order(%d, %d) = %d", a, m, n)
		}
	}
}

func common(a, b int) int {
	for b != 0 {
		a, b = b, a%b
	}
	return a
}

// P1.2: arguments that are not as described.
func TestRemainderErrors(t *testing.T) {
	for _, m := range oddInts {
		for _, a := range oddInts {
			if m >= 1 && m <= api.MaxNumber && a >= 0 && a < m {
				continue
			}
			n, e := prime.Power(a, 3, m)
			want(t, fmt.Sprintf("Power(%d, 3, %d)", a, m), n, e, 0, api.ErrArg)
			n, e = prime.Inverse(a, m)
			want(t, fmt.Sprintf("Inverse(%d, %d)", a, m), n, e, 0, api.ErrArg)
			n, e = prime.Order(a, m)
			want(t, fmt.Sprintf("Order(%d, %d)", a, m), n, e, 0, api.ErrArg)
		}
	}
	for _, exp := range []int{-1, -2, math.MinInt} {
		for _, m := range []int{1, 2, 7} {
			n, e := prime.Power(m-1, exp, m)
			want(t, fmt.Sprintf("Power(%d, %d, %d)", m-1, exp, m), n, e, 0, api.ErrArg)
		}
	}
}

// P1.5: the order of an element divides that of the group, and powers add their exponents.
func TestRemainderProperties(t *testing.T) {
	random := rand.New(rand.NewSource(2))
	for _, p := range largePrimes {
		for range 40 {
			a := 1 + random.Intn(p-1)
			if n, e := prime.Order(a, p); e != api.OK || n < 1 || (p-1)%n != 0 {
				t.Errorf("Order(%d, %d) = %d, %d", a, p, n, e)
			}
		}
	}
	for m := 1; m <= 200; m++ {
		units := 0
		for a := range m {
			if common(a, m) == 1 {
				units++
			}
		}
		for a := range m {
			if n, e := prime.Order(a, m); e == api.OK && units%n != 0 {
				t.Errorf("Order(%d, %d) = %d, of %d", a, m, n, units)
			}
		}
	}
	for range 2000 {
		m := 1 + random.Intn(mersenne)
		a, d, e := random.Intn(m), random.Intn(1<<40), random.Intn(1<<40)
		x, _ := prime.Power(a, d, m)
		y, _ := prime.Power(a, e, m)
		z, _ := prime.Power(a, d+e, m)
		if x*y%m != z {
			t.Errorf("%d^(%d + %d) modulo %d: %d, %d, %d", a, d, e, m, x, y, z)
		}
	}
}
