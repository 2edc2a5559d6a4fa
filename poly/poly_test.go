package poly_test

import (
	"fmt"
	"math"
	"math/rand"
	"slices"
	"testing"

	"olivette/api"
	"olivette/poly"
)

// P2.1: sums, products and quotients of all small polynomials.
func TestArithmeticSmall(t *testing.T) {
	for p, length := range map[int]int{2: 5, 3: 3, 5: 2, 7: 2} {
		all := allPolys(p, length)
		for _, f := range all {
			for _, g := range all {
				checkArithmetic(t, p, f, g)
				checkGcd(t, p, f, g)
			}
		}
	}
}

func checkArithmetic(t *testing.T, p int, f, g []int) {
	t.Helper()
	h, e := poly.Add(p, f, g)
	wantPoly(t, fmt.Sprintf("Add(%d, %v, %v)", p, f, g), h, e, plainSum(p, f, g), api.OK)
	h, e = poly.Mul(p, f, g)
	if degree(f)+degree(g) < api.MaxLength || len(f) == 0 || len(g) == 0 {
		wantPoly(t, fmt.Sprintf("Mul(%d, %v, %v)", p, f, g), h, e, plainProduct(p, f, g), api.OK)
	} else {
		wantPoly(t, fmt.Sprintf("Mul(%d, %v, %v)", p, f, g), h, e, nil, api.ErrFull)
	}
	q, r, e := poly.Div(p, f, g)
	if len(g) == 0 {
		if len(q) != 0 || len(r) != 0 || e != api.ErrZero {
			t.Errorf("Div(%d, %v, %v) = %v, %v, %d", p, f, g, q, r, e)
		}
		return
	}
	right := isPoly(p, q) && isPoly(p, r) && degree(r) < degree(g) && slices.Equal(plainSum(p, plainProduct(p, q, g), r), f)
	if !right || e != api.OK {
		t.Errorf("Div(%d, %v, %v) = %v, %v, %d", p, f, g, q, r, e)
	}
}

// checkGcd decides by the words of the chapter.
func checkGcd(t *testing.T, p int, f, g []int) {
	t.Helper()
	d, a, b, e := poly.Gcd(p, f, g)
	complain := func(why string) {
		t.Helper()
		t.Errorf("Gcd(%d, %v, %v) = %v, %v, %v, %d: %s", p, f, g, d, a, b, e, why)
	}
	if e != api.OK || !isPoly(p, d) || !isPoly(p, a) || !isPoly(p, b) {
		complain("not polynomials")
		return
	}
	if !slices.Equal(plainSum(p, plainProduct(p, a, f), plainProduct(p, b, g)), d) {
		complain("a f + b g is not d")
	}
	if len(f) == 0 && len(g) == 0 {
		if len(d) != 0 || len(a) != 0 || len(b) != 0 {
			complain("both are 0")
		}
		return
	}
	if len(d) == 0 || d[len(d)-1] != 1 {
		complain("d is not monic")
		return
	}
	// What a f + b g is, all common divisors divide.
	fPart, gPart := degree(quotient(t, p, f, d)), degree(quotient(t, p, g, d))
	switch {
	case len(g) == 0:
		if len(b) != 0 || len(a) != 1 {
			complain("g is 0")
		}
	case len(f) == 0, fPart == 0 && gPart == 0:
		if len(a) != 0 || len(b) != 1 {
			complain("a is not 0, or b is not a constant")
		}
	default:
		if len(a) > 0 && degree(a) >= gPart || len(b) > 0 && degree(b) >= fPart {
			complain("the degrees are too great")
		}
	}
}

// P2.1: sums, products and quotients of great polynomials, with and without common divisors.
func TestArithmeticLarge(t *testing.T) {
	random := rand.New(rand.NewSource(1))
	for _, p := range somePrimes {
		for range 150 {
			f, g := randomPoly(random, p, random.Intn(api.MaxLength+1)), randomPoly(random, p, random.Intn(api.MaxLength+1))
			checkArithmetic(t, p, f, g)
			checkGcd(t, p, f, g)
			d := randomPoly(random, p, 1+random.Intn(15))
			f, g = plainProduct(p, d, randomPoly(random, p, random.Intn(18))), plainProduct(p, d, randomPoly(random, p, random.Intn(18)))
			checkArithmetic(t, p, f, g)
			checkGcd(t, p, f, g)
		}
		for _, f := range goodPolys(p) {
			for _, g := range goodPolys(p) {
				checkArithmetic(t, p, f, g)
				checkGcd(t, p, f, g)
			}
		}
	}
}

// P2.1: the examples, and the edges that the chapter names.
func TestArithmeticEdges(t *testing.T) {
	h, e := poly.Mul(5, []int{2, 1}, []int{3, 1})
	wantPoly(t, "(x + 2)(x + 3)", h, e, []int{1, 0, 1}, api.OK)
	h, e = poly.Add(5, []int{2, 1}, []int{3, 4})
	wantPoly(t, "a sum that is 0", h, e, nil, api.OK)
	h, e = poly.Add(5, []int{2, 1, 3}, []int{1, 3, 2})
	wantPoly(t, "a sum of a lesser degree", h, e, []int{3, 4}, api.OK)

	long := slices.Repeat([]int{1}, api.MaxLength)
	h, e = poly.Mul(2, long, []int{1})
	wantPoly(t, "degree 32", h, e, long, api.OK)
	h, e = poly.Mul(2, long, []int{0, 1})
	wantPoly(t, "degree 33", h, e, nil, api.ErrFull)
	h, e = poly.Mul(2, long, long)
	wantPoly(t, "degree 64", h, e, nil, api.ErrFull)
	h, e = poly.Mul(2, long, nil)
	wantPoly(t, "long times 0", h, e, nil, api.OK)
	h, e = poly.Mul(2, long[:17], long[:17])
	wantPoly(t, "degree 16 twice", h, e, plainProduct(2, long[:17], long[:17]), api.OK)

	gcds := []struct{ f, g, d, a, b []int }{
		{nil, nil, nil, nil, nil},
		{[]int{3}, nil, []int{1}, []int{2}, nil},
		{[]int{2, 4}, nil, []int{3, 1}, []int{4}, nil},
		{nil, []int{3}, []int{1}, nil, []int{2}},
		{nil, []int{2, 4}, []int{3, 1}, nil, []int{4}},
		{[]int{2}, []int{3}, []int{1}, nil, []int{2}},
		{[]int{2}, []int{3, 1}, []int{1}, []int{3}, nil},
		{[]int{3, 1}, []int{2}, []int{1}, nil, []int{3}},
		{[]int{2, 1}, []int{4, 2}, []int{2, 1}, nil, []int{3}},
		{[]int{2, 1}, []int{1, 0, 1}, []int{2, 1}, []int{1}, nil},
		{[]int{1, 0, 1}, []int{2, 1}, []int{2, 1}, nil, []int{1}},
		{[]int{2, 1}, []int{3, 1}, []int{1}, []int{4}, []int{1}},
	}
	for _, c := range gcds {
		d, a, b, e := poly.Gcd(5, c.f, c.g)
		if !slices.Equal(d, c.d) || !slices.Equal(a, c.a) || !slices.Equal(b, c.b) || e != api.OK {
			t.Errorf("Gcd(5, %v, %v) = %v, %v, %v, %d; want %v, %v, %v", c.f, c.g, d, a, b, e, c.d, c.a, c.b)
		}
	}
}

// P2.1: values, by the definition.
func TestValue(t *testing.T) {
	random := rand.New(rand.NewSource(2))
	for _, p := range somePrimes {
		for range 40 {
			f := randomPoly(random, p, random.Intn(api.MaxLength+1))
			for range 20 {
				x := random.Intn(p)
				sum, power := 0, 1
				for _, c := range f {
					sum = (sum + c*power) % p
					power = power * x % p
				}
				if n, e := poly.Value(p, f, x); n != sum || e != api.OK {
					t.Errorf("Value(%d, %v, %d) = %d, %d; want %d", p, f, x, n, e, sum)
				}
			}
		}
		for _, x := range []int{-1, p, p + 1, -p, math.MaxInt, math.MinInt} {
			for _, f := range goodPolys(p) {
				if n, e := poly.Value(p, f, x); n != 0 || e != api.ErrArg {
					t.Errorf("Value(%d, %v, %d) = %d, %d", p, f, x, n, e)
				}
			}
		}
		if n, e := poly.Value(p, []int{p - 1, 1}, 0); n != p-1 || e != api.OK {
			t.Errorf("x - 1 at 0: %d, %d", n, e)
		}
	}
}

// P2.1: what is not a field, or not a polynomial, comes before all else.
func TestArithmeticErrors(t *testing.T) {
	refuse := func(p int, f, g []int) {
		t.Helper()
		if h, e := poly.Add(p, f, g); len(h) != 0 || e != api.ErrArg {
			t.Errorf("Add(%d, %v, %v) = %v, %d", p, f, g, h, e)
		}
		if h, e := poly.Mul(p, f, g); len(h) != 0 || e != api.ErrArg {
			t.Errorf("Mul(%d, %v, %v) = %v, %d", p, f, g, h, e)
		}
		if q, r, e := poly.Div(p, f, g); len(q) != 0 || len(r) != 0 || e != api.ErrArg {
			t.Errorf("Div(%d, %v, %v) = %v, %v, %d", p, f, g, q, r, e)
		}
		if d, a, b, e := poly.Gcd(p, f, g); len(d) != 0 || len(a) != 0 || len(b) != 0 || e != api.ErrArg {
			t.Errorf("Gcd(%d, %v, %v) = %v, %v, %v, %d", p, f, g, d, a, b, e)
		}
	}
	for _, p := range notFields {
		refuse(p, nil, nil)
		refuse(p, []int{1}, []int{1})
		refuse(p, []int{0, 1}, nil)
		if n, e := poly.Value(p, nil, 0); n != 0 || e != api.ErrArg {
			t.Errorf("Value(%d, nil, 0) = %d, %d", p, n, e)
		}
	}
	for _, p := range somePrimes {
		for _, bad := range notPolys(p) {
			for _, good := range append(goodPolys(p), bad) {
				refuse(p, bad, good)
				refuse(p, good, bad)
			}
			if n, e := poly.Value(p, bad, 0); n != 0 || e != api.ErrArg {
				t.Errorf("Value(%d, %v, 0) = %d, %d", p, bad, n, e)
			}
		}
	}
}

// Rules 5 and 6: no call changes its arguments, and no result shares memory with them, or with another one.
func TestMemory(t *testing.T) {
	for _, pair := range [][2][]int{{{1, 2}, {2, 1, 3}}, {{2, 1, 3}, {1, 2}}, {{1, 2}, {}}, {{}, {1, 2}}, {{0, 1}, {0, 1}}, {{1}, {1}}} {
		f, g := slices.Clip(slices.Clone(pair[0])), slices.Clip(slices.Clone(pair[1]))
		var results [][]int
		keep := func(list []int) {
			results = append(results, list)
		}
		h, _ := poly.Add(5, f, g)
		keep(h)
		h, _ = poly.Add(5, g, f)
		keep(h)
		h, _ = poly.Mul(5, f, g)
		keep(h)
		q, r, _ := poly.Div(5, f, g)
		keep(q)
		keep(r)
		d, a, b, _ := poly.Gcd(5, f, g)
		keep(d)
		keep(a)
		keep(b)
		_, list, _ := poly.Factor(5, f)
		for _, factor := range list {
			keep(factor.Poly)
		}
		var copies [][]int
		for _, list := range results {
			copies = append(copies, slices.Clone(list))
		}
		// Writing to one list, also behind its end, leaves all others as they are.
		for i, list := range results {
			list = list[:cap(list)]
			for j := range list {
				list[j] = 77
			}
			for k := i + 1; k < len(results); k++ {
				if !slices.Equal(results[k], copies[k]) {
					t.Errorf("of %v and %v, results %d and %d share memory", pair[0], pair[1], i, k)
				}
			}
		}
		if !slices.Equal(f, pair[0]) || !slices.Equal(g, pair[1]) {
			t.Errorf("%v and %v became %v and %v", pair[0], pair[1], f, g)
		}
	}
}
