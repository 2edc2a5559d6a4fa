package poly_test

import (
	"fmt"
	"math"
	"math/big"
	"slices"
	"testing"

	"olivette/api"
	"olivette/poly"
)

// plainCount computes without a limit, by the rule of Moebius.
func plainCount(p, n int) *big.Int {
	sum := new(big.Int)
	for d := 1; d <= n; d++ {
		if n%d == 0 {
			term := new(big.Int).Exp(big.NewInt(int64(p)), big.NewInt(int64(n/d)), nil)
			sum.Add(sum, term.Mul(term, big.NewInt(int64(moebius(d)))))
		}
	}
	return sum.Div(sum, big.NewInt(int64(n)))
}

func moebius(n int) int {
	sign := 1
	for q := 2; q <= n; q++ {
		if n%(q*q) == 0 {
			return 0
		}
		if n%q == 0 {
			sign = -sign
			n /= q
		}
	}
	return sign
}

func plainPrime(n int) bool {
	for d := 2; d < n; d++ {
		if n%d == 0 {
			return false
		}
	}
	return n > 1
}

func wantCount(t *testing.T, p, n, count int, errno api.Errno) {
	t.Helper()
	if got, e := poly.Count(p, n); got != count || e != errno {
		t.Errorf("Count(%d, %d) = %d, %d; want %d, %d", p, n, got, e, count, errno)
	}
}

// P2.4: of all fields and degrees, up to 2^53 and not more.
func TestCountAll(t *testing.T) {
	for p := -3; p <= 1100; p++ {
		for n := 1; n < api.MaxLength; n++ {
			count := plainCount(max(p, 2), n)
			switch {
			case !plainPrime(p) || p > api.MaxField:
				wantCount(t, p, n, 0, api.ErrArg)
			case count.Cmp(big.NewInt(1<<53)) > 0:
				wantCount(t, p, n, 0, api.ErrFull)
			default:
				wantCount(t, p, n, int(count.Int64()), api.OK)
			}
		}
	}
}

// P2.4: by the definition, where there are few.
func TestCountSmall(t *testing.T) {
	for p, length := range map[int]int{2: 11, 3: 7, 5: 5, 7: 4} {
		numbers := make([]int, length)
		firsts := make([][]int, length)
		for _, f := range plainIrreducibles(p, length) {
			n := degree(f)
			if numbers[n] == 0 {
				firsts[n] = f
			}
			numbers[n]++
		}
		for n := 1; n < length; n++ {
			wantCount(t, p, n, numbers[n], api.OK)
			f, e := poly.First(p, n)
			wantPoly(t, fmt.Sprintf("First(%d, %d)", p, n), f, e, firsts[n], api.OK)
		}
	}
}

// P2.4: the examples, and known numbers and polynomials.
func TestCountEdges(t *testing.T) {
	wantCount(t, 2, 3, 2, api.OK)
	wantCount(t, 3, 2, 3, api.OK)
	wantCount(t, 2, 32, (1<<32-1<<16)/32, api.OK)
	wantCount(t, 1021, 1, 1021, api.OK)
	wantCount(t, 1021, 32, 0, api.ErrFull)
	firsts := map[[2]int][]int{
		{2, 3}:     {1, 1, 0, 1},
		{2, 8}:     {1, 1, 0, 1, 1, 0, 0, 0, 1},
		{2, 32}:    append([]int{1, 0, 1, 1, 0, 0, 0, 1}, append(make([]int, 24), 1)...),
		{5, 2}:     {2, 0, 1},
		{1021, 1}:  {0, 1},
		{1021, 2}:  {2, 0, 1}, // modulo 1021, -1 is a square, and -2 is not
		{1021, 32}: append([]int{2}, append(make([]int, 31), 1)...),
	}
	for at, want := range firsts {
		f, e := poly.First(at[0], at[1])
		wantPoly(t, fmt.Sprintf("First(%d, %d)", at[0], at[1]), f, e, want, api.OK)
	}
}

// P2.4: of great degrees, the first one is irreducible, and none before it is.
func TestFirstLarge(t *testing.T) {
	for _, p := range []int{2, 3, 7, 31, 101, 1019} {
		for _, n := range []int{4, 6, 9, 16, 27, 31, 32} {
			f := firstOf(t, p, n)
			if len(f) != n+1 || f[n] != 1 || !isPoly(p, f) {
				t.Errorf("First(%d, %d) = %v", p, n, f)
			}
			wantIrreducible(t, p, f, true)
			g := slices.Clone(f)
			for range 40 {
				i := slices.IndexFunc(g, func(c int) bool { return c > 0 })
				if i == n {
					break
				}
				for j := range i {
					g[j] = p - 1
				}
				g[i]--
				wantIrreducible(t, p, g, false)
			}
		}
	}
}

func wantIrreducible(t *testing.T, p int, f []int, want bool) {
	t.Helper()
	if ok, e := poly.Irreducible(p, f); ok != want || e != api.OK {
		t.Errorf("Irreducible(%d, %v) = %t, %d", p, f, ok, e)
	}
}

// P2.4: degrees that are none, before the number is too great.
func TestCountErrors(t *testing.T) {
	refuse := func(p, n int) {
		t.Helper()
		wantCount(t, p, n, 0, api.ErrArg)
		f, e := poly.First(p, n)
		wantPoly(t, fmt.Sprintf("First(%d, %d)", p, n), f, e, nil, api.ErrArg)
	}
	for _, p := range notFields {
		for _, n := range []int{0, 1, 2, 32, 33} {
			refuse(p, n)
		}
	}
	for _, p := range somePrimes {
		for _, n := range []int{0, -1, -32, api.MaxLength, api.MaxLength + 1, math.MaxInt, math.MinInt} {
			refuse(p, n)
		}
	}
}

// P2.5: the monic irreducible polynomials whose degrees divide n have the product x^(p^n) - x.
func TestCountProduct(t *testing.T) {
	for _, c := range [][3]int{{2, 1, 2}, {2, 2, 4}, {2, 3, 8}, {2, 4, 16}, {2, 5, 32}, {3, 1, 3}, {3, 2, 9}, {3, 3, 27}, {5, 1, 5}, {5, 2, 25}, {7, 1, 7}, {31, 1, 31}} {
		p, n, power := c[0], c[1], c[2]
		f := make([]int, power+1)
		f[1], f[power] = p-1, 1
		numbers := map[int]int{}
		for _, factor := range checkFactor(t, p, f) {
			numbers[degree(factor.Poly)]++
			if factor.Exp != 1 {
				t.Errorf("x^%d - x over %d has %v", power, p, factor)
			}
		}
		for d := 1; d <= power; d++ {
			if n%d == 0 {
				wantCount(t, p, d, numbers[d], api.OK)
			} else if numbers[d] != 0 {
				t.Errorf("x^%d - x over %d has %d factors of degree %d", power, p, numbers[d], d)
			}
		}
	}
}
