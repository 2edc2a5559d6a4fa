package poly_test

import (
	"cmp"
	"fmt"
	"math/rand"
	"reflect"
	"slices"
	"testing"

	"olivette/api"
	"olivette/poly"
	"olivette/prime"
)

// compare is the order of the chapter, of polynomials of all degrees.
func compare(f, g []int) int {
	if c := cmp.Compare(len(f), len(g)); c != 0 {
		return c
	}
	f, g = slices.Clone(f), slices.Clone(g)
	slices.Reverse(f)
	slices.Reverse(g)
	return slices.Compare(f, g)
}

// checkFactor returns the factors, which are right if each of them is irreducible.
func checkFactor(t *testing.T, p int, f []int) []api.Factor {
	t.Helper()
	before := slices.Clone(f)
	c, list, e := poly.Factor(p, f)
	if e != api.OK || c != f[len(f)-1] || !slices.Equal(f, before) {
		t.Fatalf("Factor(%d, %v) = %d, %v, %d", p, before, c, list, e)
	}
	whole := []int{c}
	for i, factor := range list {
		if !isPoly(p, factor.Poly) || degree(factor.Poly) < 1 || factor.Poly[degree(factor.Poly)] != 1 || factor.Exp < 1 {
			t.Fatalf("Factor(%d, %v) = %d, %v", p, f, c, list)
		}
		if i > 0 && compare(list[i-1].Poly, factor.Poly) >= 0 {
			t.Errorf("Factor(%d, %v) = %d, %v: not in order", p, f, c, list)
		}
		whole = plainProduct(p, whole, plainPower(p, factor.Poly, factor.Exp))
	}
	if !slices.Equal(whole, f) {
		t.Errorf("Factor(%d, %v) = %d, %v: the product is %v", p, f, c, list, whole)
	}
	return list
}

// P2.3: by the definition, of all small polynomials.
func TestFactorSmall(t *testing.T) {
	for p, length := range map[int]int{2: 9, 3: 6, 5: 4, 7: 4, 11: 3} {
		irreducible := map[string]bool{}
		for _, f := range plainIrreducibles(p, length) {
			irreducible[fmt.Sprint(f)] = true
		}
		for _, f := range allPolys(p, length)[1:] {
			list := checkFactor(t, p, f)
			for _, factor := range list {
				if !irreducible[fmt.Sprint(factor.Poly)] {
					t.Errorf("Factor(%d, %v) = %v: %v is not irreducible", p, f, list, factor.Poly)
				}
			}
			one := len(list) == 1 && list[0].Exp == 1
			if ok, e := poly.Irreducible(p, f); ok != one || e != api.OK {
				t.Errorf("Irreducible(%d, %v) = %t, %d; the factors are %v", p, f, ok, e, list)
			}
		}
	}
}

// P2.3: constants, 0, and the examples.
func TestFactorEdges(t *testing.T) {
	for _, p := range somePrimes {
		for _, c := range []int{1, p - 1} {
			if n, list, e := poly.Factor(p, []int{c}); n != c || len(list) != 0 || e != api.OK {
				t.Errorf("Factor(%d, %d) = %d, %v, %d", p, c, n, list, e)
			}
			if ok, e := poly.Irreducible(p, []int{c}); ok || e != api.OK {
				t.Errorf("Irreducible(%d, %d) = %t, %d", p, c, ok, e)
			}
			if ok, e := poly.Irreducible(p, []int{0, c}); !ok || e != api.OK {
				t.Errorf("Irreducible(%d, %d x) = %t, %d", p, c, ok, e)
			}
		}
		for _, zero := range [][]int{nil, {}} {
			if n, list, e := poly.Factor(p, zero); n != 0 || len(list) != 0 || e != api.ErrZero {
				t.Errorf("Factor(%d, 0) = %d, %v, %d", p, n, list, e)
			}
			if ok, e := poly.Irreducible(p, zero); ok || e != api.OK {
				t.Errorf("Irreducible(%d, 0) = %t, %d", p, ok, e)
			}
		}
	}
	wantFactors(t, 2, []int{1, 0, 0, 0, 1}, 1, api.Factor{Poly: []int{1, 1}, Exp: 4})
	wantFactors(t, 2, []int{1, 1, 1}, 1, api.Factor{Poly: []int{1, 1, 1}, Exp: 1})
	wantFactors(t, 5, []int{1, 0, 1}, 1, api.Factor{Poly: []int{2, 1}, Exp: 1}, api.Factor{Poly: []int{3, 1}, Exp: 1})
	wantFactors(t, 5, []int{3, 0, 3}, 3, api.Factor{Poly: []int{2, 1}, Exp: 1}, api.Factor{Poly: []int{3, 1}, Exp: 1})
	// The one of the higher power decides: x^2 + 2 x + 4 is before x^2 + 3 x + 3, over 5.
	first, second := []int{4, 2, 1}, []int{3, 3, 1}
	wantFactors(t, 5, plainProduct(5, second, first), 1, api.Factor{Poly: first, Exp: 1}, api.Factor{Poly: second, Exp: 1})
}

func wantFactors(t *testing.T, p int, f []int, c int, want ...api.Factor) {
	t.Helper()
	n, list, e := poly.Factor(p, f)
	if n != c || !reflect.DeepEqual(list, want) || e != api.OK {
		t.Errorf("Factor(%d, %v) = %d, %v, %d; want %d, %v", p, f, n, list, e, c, want)
	}
}

// P2.3: exponents that p divides, alone and beside others.
func TestFactorPowers(t *testing.T) {
	wantFactors(t, 2, plainPower(2, []int{1, 1}, 32), 1, api.Factor{Poly: []int{1, 1}, Exp: 32})
	wantFactors(t, 2, plainPower(2, []int{1, 1, 1}, 16), 1, api.Factor{Poly: []int{1, 1, 1}, Exp: 16})
	wantFactors(t, 31, plainPower(31, []int{7, 1}, 31), 1, api.Factor{Poly: []int{7, 1}, Exp: 31})
	wantFactors(t, 31, plainPower(31, []int{7, 1}, 32), 1, api.Factor{Poly: []int{7, 1}, Exp: 32})
	wantFactors(t, 1021, plainPower(1021, []int{7, 1}, 32), 1, api.Factor{Poly: []int{7, 1}, Exp: 32})
	for _, p := range []int{2, 3, 5} {
		parts := []api.Factor{{Poly: []int{0, 1}}, {Poly: []int{1, 1}}, {Poly: firstOf(t, p, 2)}, {Poly: firstOf(t, p, 3)}}
		for code := range 1 << 12 {
			f, list := []int{p - 1}, []api.Factor(nil)
			for _, part := range parts {
				part.Exp = code % 8
				code /= 8
				if part.Exp > 0 && degree(f)+degree(part.Poly)*part.Exp < api.MaxLength {
					f = plainProduct(p, f, plainPower(p, part.Poly, part.Exp))
					list = append(list, part)
				}
			}
			wantFactors(t, p, f, p-1, list...)
		}
	}
}

func firstOf(t *testing.T, p, n int) []int {
	t.Helper()
	return must[[]int](t, fmt.Sprintf("First(%d, %d)", p, n))(poly.First(p, n))
}

// P2.3: where p does not divide n, the factors of x^n - 1 have for each divisor d of n the order of p modulo d as their degree.
func TestFactorUnity(t *testing.T) {
	for _, p := range []int{2, 3, 5, 7, 11, 13, 17, 31, 101, 257, 1009, 1013, 1019, 1021} {
		for n := 1; n < api.MaxLength; n++ {
			if n%p == 0 {
				continue
			}
			f := make([]int, n+1)
			f[0], f[n] = p-1, 1
			degrees := make([]int, n+1)
			for i := range n {
				// The order of i in the sums modulo n is d.
				d := 1
				for d*i%n != 0 {
					d++
				}
				degrees[must[int](t, "Order")(prime.Order(p%d, d))]++
			}
			for _, factor := range checkFactor(t, p, f) {
				degrees[degree(factor.Poly)] -= degree(factor.Poly)
				if factor.Exp != 1 {
					t.Errorf("x^%d - 1 over %d has %v", n, p, factor)
				}
			}
			if slices.ContainsFunc(degrees, func(left int) bool { return left != 0 }) {
				t.Errorf("x^%d - 1 over %d: the degrees are others: %v", n, p, degrees)
			}
		}
	}
}

// P2.3: x^n - a is irreducible if the primes of n divide the order of a, but not what is left of p - 1, and 4 divides p - 1 if it divides n.
func TestIrreducibleBinomials(t *testing.T) {
	for _, p := range []int{3, 5, 13, 17, 31, 257, 1019, 1021} {
		for _, n := range []int{1, 2, 3, 4, 5, 8, 9, 15, 16, 17, 20, 31, 32} {
			for a := 1; a < p; a += 1 + p/60 {
				f := make([]int, n+1)
				f[0], f[n] = p-a, 1
				order := must[int](t, "Order")(prime.Order(a, p))
				want := n%4 != 0 || p%4 == 1
				for _, power := range must[[]api.Power](t, "Factor")(prime.Factor(n)) {
					want = want && order%power.Prime == 0 && (p-1)/order%power.Prime != 0
				}
				if ok, e := poly.Irreducible(p, f); ok != want || e != api.OK {
					t.Errorf("Irreducible(%d, x^%d - %d) = %t, %d", p, n, a, ok, e)
				}
			}
		}
	}
}

// P2.3: what is not a field, or not a polynomial.
func TestFactorErrors(t *testing.T) {
	refuse := func(p int, f []int) {
		t.Helper()
		if c, list, e := poly.Factor(p, f); c != 0 || len(list) != 0 || e != api.ErrArg {
			t.Errorf("Factor(%d, %v) = %d, %v, %d", p, f, c, list, e)
		}
		if ok, e := poly.Irreducible(p, f); ok || e != api.ErrArg {
			t.Errorf("Irreducible(%d, %v) = %t, %d", p, f, ok, e)
		}
	}
	for _, p := range notFields {
		refuse(p, nil)
		refuse(p, []int{1})
		refuse(p, []int{0, 1})
	}
	for _, p := range somePrimes {
		for _, bad := range notPolys(p) {
			refuse(p, bad)
		}
	}
}

// P2.5: factors of a product are those of both.
func TestFactorProducts(t *testing.T) {
	random := rand.New(rand.NewSource(3))
	for _, p := range somePrimes {
		for range 25 {
			f, g := randomPoly(random, p, 1+random.Intn(17)), randomPoly(random, p, 1+random.Intn(17))
			exps := map[string]int{}
			for _, factor := range append(checkFactor(t, p, f), checkFactor(t, p, g)...) {
				exps[fmt.Sprint(factor.Poly)] += factor.Exp
				if ok, e := poly.Irreducible(p, factor.Poly); !ok || e != api.OK {
					t.Errorf("over %d, %v is a factor, and not irreducible", p, factor.Poly)
				}
			}
			for _, factor := range checkFactor(t, p, plainProduct(p, f, g)) {
				exps[fmt.Sprint(factor.Poly)] -= factor.Exp
			}
			for part, exp := range exps {
				if exp != 0 {
					t.Errorf("over %d, of %v times %v: %s", p, f, g, part)
				}
			}
		}
	}
}

// P2.5: a polynomial of degree n with n roots is a product of linear factors.
func TestFactorRoots(t *testing.T) {
	random := rand.New(rand.NewSource(4))
	for _, p := range somePrimes {
		for range 10 {
			roots := random.Perm(p)[:random.Intn(min(p, api.MaxLength-1)+1)]
			f := []int{1 + random.Intn(p-1)}
			var want []api.Factor
			for _, x := range roots {
				linear := []int{(p - x) % p, 1}
				f = plainProduct(p, f, linear)
				want = append(want, api.Factor{Poly: linear, Exp: 1})
			}
			slices.SortFunc(want, func(a, b api.Factor) int { return cmp.Compare(a.Poly[0], b.Poly[0]) })
			wantFactors(t, p, f, f[len(f)-1], want...)
		}
	}
}
