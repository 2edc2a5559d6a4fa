package prime_test

import (
	"math"
	"math/rand"
	"slices"
	"testing"

	"olivette/api"
	"olivette/prime"
)

func wantCommon(t *testing.T, rests, moduli []int, value, multiple int, errno api.Errno) {
	t.Helper()
	x, m, e := prime.Common(rests, moduli)
	if x != value || m != multiple || e != errno {
		t.Errorf("Common(%v, %v) = %d, %d, %d; want %d, %d, %d", rests, moduli, x, m, e, value, multiple, errno)
	}
}

// plainCommon tries all numbers below the least common multiple.
func plainCommon(rests, moduli []int) (int, int, api.Errno) {
	divides := func(x int) bool {
		for _, m := range moduli {
			if x%m != 0 {
				return false
			}
		}
		return true
	}
	multiple := 1
	for !divides(multiple) {
		multiple++
	}
search:
	for x := range multiple {
		for i, m := range moduli {
			if x%m != rests[i] {
				continue search
			}
		}
		return x, multiple, api.OK
	}
	return 0, 0, api.ErrNone
}

// P1.4: by the definition, for all small moduli.
func TestCommonSmall(t *testing.T) {
	for a := 1; a <= 9; a++ {
		for b := 1; b <= 9; b++ {
			for i := range a * b {
				for c := 1; c <= 6; c++ {
					rests, moduli := []int{i / b, i % b, i % c}, []int{a, b, c}
					x, m, e := plainCommon(rests, moduli)
					wantCommon(t, rests, moduli, x, m, e)
				}
			}
		}
	}
	for m := 1; m <= 20; m++ {
		for r := range m {
			wantCommon(t, []int{r}, []int{m}, r, m, api.OK)
		}
	}
}

// P1.4: the edges that the chapter names.
func TestCommonEdges(t *testing.T) {
	wantCommon(t, nil, nil, 0, 1, api.OK)
	wantCommon(t, []int{}, nil, 0, 1, api.OK)
	wantCommon(t, []int{}, []int{}, 0, 1, api.OK)
	wantCommon(t, []int{2, 3}, []int{3, 5}, 8, 15, api.OK)
	wantCommon(t, []int{0, 1}, []int{4, 6}, 0, 0, api.ErrNone)
	wantCommon(t, []int{0, 0, 0}, []int{1, 1, 1}, 0, 1, api.OK)
	wantCommon(t, []int{5, 5}, []int{mersenne, mersenne}, 5, mersenne, api.OK)
	wantCommon(t, []int{5, 6}, []int{mersenne, mersenne}, 0, 0, api.ErrNone)
	wantCommon(t, []int{mersenne - 1, mersenne - 2}, []int{mersenne, mersenne - 1}, mersenne*(mersenne-1)-1, mersenne*(mersenne-1), api.OK)
	wantCommon(t, []int{mersenne - 2, 0}, []int{mersenne - 1, mersenne}, mersenne*(mersenne-2), mersenne*(mersenne-1), api.OK)

	wantCommon(t, make([]int, 32), slices.Repeat([]int{7}, 32), 0, 7, api.OK)
	wantCommon(t, make([]int, 33), slices.Repeat([]int{7}, 33), 0, 0, api.ErrArg)
	wantCommon(t, make([]int, 33), slices.Repeat([]int{1}, 33), 0, 0, api.ErrArg)
	wantCommon(t, make([]int, 100000), slices.Repeat([]int{1}, 100000), 0, 0, api.ErrArg)
}

// P1.4: a multiple of up to 2^62, and not more.
func TestCommonLimit(t *testing.T) {
	below := []int{3, 715827883, mersenne}             // the product is 2^62 - 1
	above := []int{5, 5581, 8681, 49477, 384773}       // the product is 2^62 + 1
	clash := []int{2, 2, 5, 8681, 5581, 384773, 49477} // with a clash before it is too great
	if below[0]*below[1]*below[2] != 1<<62-1 || above[0]*above[1]*above[2]*above[3]*above[4] != 1<<62+1 {
		t.Fatal("the products are others")
	}
	wantCommon(t, []int{2, 715827882, mersenne - 1}, below, 1<<62-2, 1<<62-1, api.OK)
	wantCommon(t, []int{0, 0, 0, 1}, append([]int{mersenne}, below...), 0, 0, api.ErrNone)
	wantCommon(t, make([]int, 5), above, 0, 0, api.ErrArg)
	slices.Reverse(above)
	wantCommon(t, make([]int, 5), above, 0, 0, api.ErrArg)
	// ErrArg comes before ErrNone.
	wantCommon(t, []int{0, 1, 0, 0, 0, 0, 0}, clash, 0, 0, api.ErrArg)
	wantCommon(t, []int{0, 1, 0, 0, 0, 0}, clash[:6], 0, 0, api.ErrNone)
	wantCommon(t, make([]int, 4), []int{mersenne, mersenne - 1, 2147483629, 2147483587}, 0, 0, api.ErrArg)
	wantCommon(t, make([]int, 3), []int{mersenne, mersenne - 1, 2}, 0, mersenne*(mersenne-1), api.OK)
	wantCommon(t, make([]int, 3), []int{mersenne, mersenne - 1, 5}, 0, 0, api.ErrArg)
}

// P1.4: lists that are not as described, also behind rests that do not agree.
func TestCommonErrors(t *testing.T) {
	wantCommon(t, []int{0}, nil, 0, 0, api.ErrArg)
	wantCommon(t, nil, []int{1}, 0, 0, api.ErrArg)
	wantCommon(t, []int{0, 0}, []int{3}, 0, 0, api.ErrArg)
	wantCommon(t, []int{0, 1}, []int{4, 6, 5}, 0, 0, api.ErrArg)
	for _, m := range notNumbers {
		for _, r := range []int{0, 1, -1, m - 1, m} {
			wantCommon(t, []int{r}, []int{m}, 0, 0, api.ErrArg)
			wantCommon(t, []int{0, 1, r}, []int{4, 6, m}, 0, 0, api.ErrArg)
			wantCommon(t, []int{r, 0, 1}, []int{m, 4, 6}, 0, 0, api.ErrArg)
		}
	}
	for _, m := range []int{1, 2, 7, mersenne} {
		for _, r := range []int{-1, m, m + 1, 2 * m, math.MaxInt, math.MinInt} {
			wantCommon(t, []int{r}, []int{m}, 0, 0, api.ErrArg)
			wantCommon(t, []int{0, 1, r}, []int{4, 6, m}, 0, 0, api.ErrArg)
		}
	}
}

// P1.4: the rests of a number lead back to it.
func TestCommonLarge(t *testing.T) {
	random := rand.New(rand.NewSource(5))
	for range 3000 {
		var moduli []int
		multiple := 1
		for range 1 + random.Intn(8) {
			m := 1 + random.Intn(1<<(1+random.Intn(30)))
			more := m / common(multiple, m)
			if multiple <= 1<<62/more {
				multiple *= more
				moduli = append(moduli, m)
			}
		}
		x := random.Intn(multiple)
		var rests []int
		for _, m := range moduli {
			rests = append(rests, x%m)
		}
		keepRests, keepModuli := slices.Clone(rests), slices.Clone(moduli)
		wantCommon(t, rests, moduli, x, multiple, api.OK)
		if !slices.Equal(rests, keepRests) || !slices.Equal(moduli, keepModuli) {
			t.Fatalf("Common changes its arguments")
		}
	}
}
