package poly_test

import (
	"fmt"
	"math"
	"math/rand"
	"slices"
	"testing"

	"olivette/api"
	"olivette/poly"
)

// somePrimes are fields: the least, the greatest, and some in between.
var somePrimes = []int{2, 3, 5, 7, 31, 257, 1019, api.MaxField}

// notFields are ints that are not fields, primes beyond MaxField among them.
var notFields = []int{0, 1, -1, -2, -5, 4, 6, 9, 15, 341, 561, 961, 1007, 1020, 1022, 1031, 1033, api.MaxNumber, 1 << 32, 1<<32 + 7, math.MaxInt, math.MinInt}

// notPolys returns lists that are not polynomials over the field.
func notPolys(p int) [][]int {
	tooLong := slices.Repeat([]int{1}, api.MaxLength+1)
	return [][]int{{0}, {0, 0}, {1, 0}, {p}, {-1}, {p, 1}, {1, p}, {1, -1}, {-1, 1}, {0, p, 1}, {math.MaxInt}, {math.MinInt, 1}, {1, p + 1, 1}, tooLong, make([]int, 100000)}
}

// goodPolys returns some polynomials over the field, the longest among them.
func goodPolys(p int) [][]int {
	return [][]int{nil, {}, {1}, {p - 1}, {0, 1}, {p - 1, 1, p - 1}, slices.Repeat([]int{1}, api.MaxLength), slices.Repeat([]int{p - 1}, api.MaxLength)}
}

// isPoly is the definition.
func isPoly(p int, f []int) bool {
	for _, c := range f {
		if c < 0 || c >= p {
			return false
		}
	}
	return len(f) <= api.MaxLength && (len(f) == 0 || f[len(f)-1] != 0)
}

// allPolys returns all polynomials of at most that length, in ascending order of the lengths, then in their order.
func allPolys(p, length int) [][]int {
	list := [][]int{nil}
	number := 1
	for n := 1; n <= length; n++ {
		for lead := 1; lead < p; lead++ {
			for i := range number {
				f := make([]int, n)
				f[n-1] = lead
				for j := range n - 1 {
					f[j] = i % p
					i /= p
				}
				list = append(list, f)
			}
		}
		number *= p
	}
	return list
}

// monicPolys returns those of allPolys that are monic.
func monicPolys(p, length int) [][]int {
	return slices.DeleteFunc(allPolys(p, length), func(f []int) bool { return len(f) == 0 || f[len(f)-1] != 1 })
}

// randomPoly returns one of that length.
func randomPoly(random *rand.Rand, p, length int) []int {
	f := make([]int, length)
	for i := range f {
		f[i] = random.Intn(p)
	}
	if length > 0 {
		f[length-1] = 1 + random.Intn(p-1)
	}
	return f
}

// plain returns the list of coefficients modulo p, without the zeros at its end.
func plain(p int, f []int) []int {
	var g []int
	last := 0
	for i, c := range f {
		g = append(g, (c%p+p)%p)
		if g[i] != 0 {
			last = i + 1
		}
	}
	return g[:last]
}

func plainSum(p int, f, g []int) []int {
	h := make([]int, max(len(f), len(g)))
	copy(h, f)
	for i, c := range g {
		h[i] += c
	}
	return plain(p, h)
}

func plainProduct(p int, lists ...[]int) []int {
	result := []int{1}
	for _, f := range lists {
		h := make([]int, len(result)+len(f))
		for i, a := range result {
			for j, b := range f {
				h[i+j] += a * b
			}
		}
		result = plain(p, h)
	}
	return result
}

func plainPower(p int, f []int, e int) []int {
	return plainProduct(p, slices.Repeat([][]int{f}, e)...)
}

// plainIrreducibles returns the monic irreducible polynomials of at most that length, in their order: what no product of lesser ones is.
func plainIrreducibles(p, length int) [][]int {
	products := map[string]bool{}
	all := monicPolys(p, length)[1:] // without 1
	for _, f := range all {
		for _, g := range all {
			if len(f)+len(g)-1 <= length {
				products[fmt.Sprint(plainProduct(p, f, g))] = true
			}
		}
	}
	return slices.DeleteFunc(all, func(f []int) bool { return products[fmt.Sprint(f)] })
}

func wantPoly(t *testing.T, call string, got []int, e api.Errno, f []int, errno api.Errno) {
	t.Helper()
	if !slices.Equal(got, f) || e != errno {
		t.Errorf("%s = %v, %d; want %v, %d", call, got, e, f, errno)
	}
}

// must returns the result, which comes without an error.
func must[T any](t *testing.T, call string) func(result T, e api.Errno) T {
	t.Helper()
	return func(result T, e api.Errno) T {
		t.Helper()
		if e != api.OK {
			t.Fatalf("%s: %d", call, e)
		}
		return result
	}
}

// degree is -1 for 0.
func degree(f []int) int {
	return len(f) - 1
}

// quotient returns f divided by g, which divides it.
func quotient(t *testing.T, p int, f, g []int) []int {
	t.Helper()
	q, r, e := poly.Div(p, f, g)
	if e != api.OK || len(r) != 0 {
		t.Fatalf("over %d, %v does not divide %v: %v, %d", p, g, f, r, e)
	}
	return q
}
