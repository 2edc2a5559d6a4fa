package prime_test

import (
	"reflect"
	"slices"
	"strconv"
	"testing"

	"olivette/api"
	"olivette/prime"
)

// plainProof decides by the definition, in small numbers only.
func plainProof(n int, proof []api.Proof) bool {
	var earlier []int
	for _, e := range proof {
		if len(earlier) > 0 && e.P <= earlier[len(earlier)-1] {
			return false
		}
		if e.P == 2 {
			if e.Witness != 1 || len(e.Factors) != 0 {
				return false
			}
		} else if e.P < 3 || e.P%2 == 0 || !plainEntry(e, earlier) {
			return false
		}
		earlier = append(earlier, e.P)
	}
	return len(earlier) > 0 && earlier[len(earlier)-1] == n
}

func plainEntry(e api.Proof, earlier []int) bool {
	if e.Witness < 2 || e.Witness > e.P-1 || plainPower(e.Witness, e.P-1, e.P) != 1 {
		return false
	}
	rest := e.P - 1
	for i, q := range e.Factors {
		if i > 0 && q <= e.Factors[i-1] || !slices.Contains(earlier, q) || (e.P-1)%q != 0 {
			return false
		}
		for rest%q == 0 {
			rest /= q
		}
		if plainPower(e.Witness, (e.P-1)/q, e.P) == 1 {
			return false
		}
	}
	return rest == 1
}

// P1.1: the verdicts are right, of all small numbers.
func TestDecideSmall(t *testing.T) {
	for n := 1; n <= 3000; n++ {
		v, e := prime.Decide(n)
		if e != api.OK {
			t.Fatalf("Decide(%d): %d", n, e)
		}
		switch {
		case n == 1:
			if v.Divisor != 1 || len(v.Proof) != 0 {
				t.Errorf("Decide(1) = %v", v)
			}
		case plainPrime(n):
			if v.Divisor != 0 || !plainProof(n, v.Proof) {
				t.Errorf("Decide(%d) = %v", n, v)
			}
		default:
			if v.Divisor <= 1 || v.Divisor >= n || n%v.Divisor != 0 || len(v.Proof) != 0 {
				t.Errorf("Decide(%d) = %v", n, v)
			}
		}
		if e := prime.Check(n, v); e != api.OK {
			t.Errorf("Check(%d, %v) = %d", n, v, e)
		}
	}
}

// P1.1: the verdicts are right, of great numbers, and of such as look like primes.
func TestDecideLarge(t *testing.T) {
	for _, p := range largePrimes {
		v, e := prime.Decide(p)
		if e != api.OK || v.Divisor != 0 || prime.Check(p, v) != api.OK {
			t.Errorf("Decide(%d) = %v, %d", p, v, e)
		}
	}
	composites := []int{341, 561, 1729, 2047, 25326001, 1373653, 65535, 65536, 46337 * 46337, 46327 * 46337, 46309 * 46337, mersenne - 1, 2147483645, 2 * 1073741789, 1 << 30}
	for _, n := range composites {
		v, e := prime.Decide(n)
		if e != api.OK || v.Divisor <= 1 || v.Divisor >= n || n%v.Divisor != 0 || len(v.Proof) != 0 || prime.Check(n, v) != api.OK {
			t.Errorf("Decide(%d) = %v, %d", n, v, e)
		}
	}
}

// P1.1: what is not a number.
func TestDecideErrors(t *testing.T) {
	for _, n := range notNumbers {
		v, e := prime.Decide(n)
		if e != api.ErrArg || v.Divisor != 0 || len(v.Proof) != 0 {
			t.Errorf("Decide(%d) = %v, %d", n, v, e)
		}
		l, e := prime.Factor(n)
		if e != api.ErrArg || len(l) != 0 {
			t.Errorf("Factor(%d) = %v, %d", n, l, e)
		}
		// ErrArg comes before ErrAnswer, and whatever would be right of another number.
		for _, v := range []api.Verdict{{}, {Divisor: 1}, {Divisor: 7}, {Proof: []api.Proof{{P: n}}}, {Divisor: 2, Proof: proofOf(7)}} {
			if e := prime.Check(n, v); e != api.ErrArg {
				t.Errorf("Check(%d, %v) = %d", n, v, e)
			}
		}
	}
}

// proofOf returns a right proof for 2, 3, 7 or 43.
func proofOf(n int) []api.Proof {
	list := []api.Proof{{P: 2, Witness: 1}, {P: 3, Witness: 2, Factors: []int{2}}, {P: 7, Witness: 3, Factors: []int{2, 3}}, {P: 43, Witness: 3, Factors: []int{2, 3, 7}}}
	for i, e := range list {
		if e.P == n {
			return list[:i+1]
		}
	}
	return nil
}

// P1.1: every right verdict is accepted, not only those that Decide returns.
func TestCheckRight(t *testing.T) {
	cases := []struct {
		n int
		v api.Verdict
	}{
		{1, api.Verdict{Divisor: 1}},
		{1, api.Verdict{Divisor: 1, Proof: []api.Proof{}}},
		{12, api.Verdict{Divisor: 2}},
		{12, api.Verdict{Divisor: 3}},
		{12, api.Verdict{Divisor: 4}},
		{12, api.Verdict{Divisor: 6, Proof: []api.Proof{}}},
		{4, api.Verdict{Divisor: 2}},
		{mersenne - 1, api.Verdict{Divisor: (mersenne - 1) / 2}},
		{2, api.Verdict{Proof: proofOf(2)}},
		{2, api.Verdict{Proof: []api.Proof{{P: 2, Witness: 1, Factors: []int{}}}}},
		{3, api.Verdict{Proof: proofOf(3)}},
		{7, api.Verdict{Proof: proofOf(7)}},
		{43, api.Verdict{Proof: proofOf(43)}},
		{7, api.Verdict{Proof: []api.Proof{proofOf(7)[0], proofOf(7)[1], {P: 7, Witness: 5, Factors: []int{2, 3}}}}},
		// Entries that are not needed do no harm: 5 and 7 for 11, 3 for 5.
		{5, api.Verdict{Proof: []api.Proof{proofOf(7)[0], proofOf(7)[1], {P: 5, Witness: 2, Factors: []int{2}}}}},
		{11, api.Verdict{Proof: []api.Proof{proofOf(7)[0], proofOf(7)[1], {P: 5, Witness: 3, Factors: []int{2}}, proofOf(7)[2], {P: 11, Witness: 8, Factors: []int{2, 5}}}}},
	}
	for _, c := range cases {
		if e := prime.Check(c.n, c.v); e != api.OK {
			t.Errorf("Check(%d, %v) = %d", c.n, c.v, e)
		}
	}
}

// P1.1: a wrong divisor, or a divisor beside a proof.
func TestCheckWrongDivisor(t *testing.T) {
	cases := []struct {
		n int
		v api.Verdict
	}{
		{1, api.Verdict{}},
		{1, api.Verdict{Divisor: 2}},
		{1, api.Verdict{Divisor: -1}},
		{1, api.Verdict{Divisor: 1, Proof: proofOf(2)}},
		{1, api.Verdict{Proof: []api.Proof{{P: 1, Witness: 1}}}},
		{1, api.Verdict{Proof: proofOf(2)}},
		{2, api.Verdict{}},
		{2, api.Verdict{Divisor: 1}},
		{2, api.Verdict{Divisor: 2}},
		{12, api.Verdict{}},
		{12, api.Verdict{Divisor: 1}},
		{12, api.Verdict{Divisor: 12}},
		{12, api.Verdict{Divisor: 5}},
		{12, api.Verdict{Divisor: -2}},
		{12, api.Verdict{Divisor: 24}},
		{12, api.Verdict{Divisor: 2, Proof: proofOf(2)}},
		{7, api.Verdict{Divisor: 7}},
		{7, api.Verdict{Divisor: 1, Proof: proofOf(7)}},
		{7, api.Verdict{Divisor: 7, Proof: proofOf(7)}},
		{7, api.Verdict{Divisor: -1, Proof: proofOf(7)}},
	}
	for _, c := range cases {
		if e := prime.Check(c.n, c.v); e != api.ErrAnswer {
			t.Errorf("Check(%d, %v) = %d", c.n, c.v, e)
		}
	}
	for _, d := range oddInts {
		right := d == 0 // with the proof
		if e := prime.Check(7, api.Verdict{Divisor: d, Proof: proofOf(7)}); (e == api.OK) != right {
			t.Errorf("Check(7, %d) = %d", d, e)
		}
	}
}

// P1.1: a proof of which one thing is wrong.
func TestCheckWrongProof(t *testing.T) {
	two, three, seven := proofOf(7)[0], proofOf(7)[1], proofOf(7)[2]
	five := api.Proof{P: 5, Witness: 2, Factors: []int{2}}
	with := func(list ...api.Proof) []api.Proof { return list }
	cases := []struct {
		why   string
		n     int
		proof []api.Proof
	}{
		{"empty", 7, with()},
		{"the last one is not n", 7, with(two, three)},
		{"the last one is greater than n", 3, with(two, three, seven)},
		{"n is not the last one", 7, with(two, three, seven, api.Proof{P: 11, Witness: 2, Factors: []int{2, 5}})},
		{"descending", 7, with(three, two, seven)},
		{"twice", 7, with(two, two, three, seven)},
		{"twice at the end", 7, with(two, three, seven, seven)},
		{"no entry for a factor", 7, with(two, seven)},
		{"the factor is its own entry", 3, with(two, api.Proof{P: 3, Witness: 2, Factors: []int{3}})},
		{"2 with another witness", 2, with(api.Proof{P: 2, Witness: 0})},
		{"2 with a witness of 3", 2, with(api.Proof{P: 2, Witness: 3})},
		{"2 with factors", 2, with(api.Proof{P: 2, Witness: 1, Factors: []int{1}})},
		{"2 is not right, and not needed", 7, with(api.Proof{P: 2, Witness: 2}, three, seven)},
		{"1 as an entry", 2, with(api.Proof{P: 1, Witness: 1}, two)},
		{"0 as an entry", 2, with(api.Proof{}, two)},
		{"a negative entry", 3, with(api.Proof{P: -3, Witness: 1}, two, three)},
		{"an even entry", 4, with(two, three, api.Proof{P: 4, Witness: 3, Factors: []int{3}})},
		{"an even entry without factors", 4, with(two, api.Proof{P: 4, Witness: 1})},
		{"witness 1", 3, with(two, api.Proof{P: 3, Witness: 1, Factors: []int{2}})},
		{"witness P", 7, with(two, three, api.Proof{P: 7, Witness: 7, Factors: []int{2, 3}})},
		{"witness P + 3", 7, with(two, three, api.Proof{P: 7, Witness: 10, Factors: []int{2, 3}})},
		{"witness 3 - P", 7, with(two, three, api.Proof{P: 7, Witness: -4, Factors: []int{2, 3}})},
		{"witness 0", 7, with(two, three, api.Proof{P: 7, Factors: []int{2, 3}})},
		{"a lesser order by 2", 7, with(two, three, api.Proof{P: 7, Witness: 2, Factors: []int{2, 3}})},
		{"a lesser order by 3", 7, with(two, three, api.Proof{P: 7, Witness: 6, Factors: []int{2, 3}})},
		{"factor 3 is left out", 7, with(two, three, api.Proof{P: 7, Witness: 6, Factors: []int{2}})},
		{"factor 2 is left out", 7, with(two, three, api.Proof{P: 7, Witness: 2, Factors: []int{3}})},
		{"no factors", 7, with(two, three, api.Proof{P: 7, Witness: 3})},
		{"factors descend", 7, with(two, three, api.Proof{P: 7, Witness: 3, Factors: []int{3, 2}})},
		{"a factor twice", 7, with(two, three, api.Proof{P: 7, Witness: 3, Factors: []int{2, 2, 3}})},
		{"a factor twice that divides twice", 5, with(two, api.Proof{P: 5, Witness: 2, Factors: []int{2, 2}})},
		{"a factor does not divide", 7, with(two, three, five, api.Proof{P: 7, Witness: 3, Factors: []int{2, 3, 5}})},
		{"a factor that is not an entry", 7, with(two, three, api.Proof{P: 7, Witness: 3, Factors: []int{6}})},
		{"factor 1", 7, with(two, three, api.Proof{P: 7, Witness: 3, Factors: []int{1, 2, 3}})},
		{"factor 0", 7, with(two, three, api.Proof{P: 7, Witness: 3, Factors: []int{0, 2, 3}})},
		{"factor -2", 7, with(two, three, api.Proof{P: 7, Witness: 3, Factors: []int{-2, 2, 3}})},
		{"the power P - 1 is not 1", 9, with(two, api.Proof{P: 9, Witness: 2, Factors: []int{2}})},
		{"a power is 1 of what is split", 341, with(two, five, api.Proof{P: 17, Witness: 3, Factors: []int{2}}, api.Proof{P: 341, Witness: 2, Factors: []int{2, 5, 17}})},
		{"an entry in between is wrong", 43, with(two, three, api.Proof{P: 7, Witness: 2, Factors: []int{2, 3}}, proofOf(43)[3])},
		{"a number in between is split", 43, with(two, three, seven, api.Proof{P: 9, Witness: 2, Factors: []int{2}}, proofOf(43)[3])},
	}
	for _, c := range cases {
		if e := prime.Check(c.n, api.Verdict{Proof: c.proof}); e != api.ErrAnswer {
			t.Errorf("%s: Check(%d, %v) = %d", c.why, c.n, c.proof, e)
		}
	}
}

// P1.1: any int in any place is judged as the definition says.
func TestCheckAnyInts(t *testing.T) {
	for _, x := range oddInts {
		proofs := [][]api.Proof{proofOf(7), proofOf(7), proofOf(7), proofOf(7)}
		proofs[0][2].P = x
		proofs[1][2].Witness = x
		proofs[2][2].Factors[1] = x
		proofs[3][0].Witness = x
		for i, proof := range proofs {
			right := []bool{x == 7, x == 3, x == 3, x == 1}[i]
			if e := prime.Check(7, api.Verdict{Proof: proof}); (e == api.OK) != right || !right && e != api.ErrAnswer {
				t.Errorf("Check(7, %v) = %d", proof, e)
			}
		}
	}
}

// P1.5: no number has right verdicts of two kinds.
func TestOneKind(t *testing.T) {
	for n := 1; n <= 300; n++ {
		isPrime := plainPrime(n)
		for d := -1; d <= n+1; d++ {
			right := d > 1 && d < n && n%d == 0 || n == 1 && d == 1
			if e := prime.Check(n, api.Verdict{Divisor: d}); (e == api.OK) != right || isPrime && e == api.OK {
				t.Errorf("Check(%d, %d) = %d", n, d, e)
			}
		}
		var entries []api.Proof
		for _, p := range primesBelow(n) {
			v, _ := prime.Decide(p)
			entries = append(entries, v.Proof[len(v.Proof)-1])
		}
		var factors []int
		for _, q := range primesBelow(n) {
			if (n-1)%q == 0 {
				factors = append(factors, q)
			}
		}
		found := false
		for w := 1; w < n; w++ {
			proof := append(slices.Clone(entries), api.Proof{P: n, Witness: w, Factors: factors})
			found = found || prime.Check(n, api.Verdict{Proof: proof}) == api.OK
		}
		if found != isPrime {
			t.Errorf("%d: a right proof is found: %t", n, found)
		}
	}
}

// P1.1: factorizations, by the definition and of great numbers.
func TestFactor(t *testing.T) {
	for n := 1; n <= 3000; n++ {
		list, e := prime.Factor(n)
		if e != api.OK {
			t.Fatalf("Factor(%d): %d", n, e)
		}
		if !isFactorization(n, list, plainPrime) {
			t.Errorf("Factor(%d) = %v", n, list)
		}
	}
	decided := func(p int) bool {
		v, e := prime.Decide(p)
		return e == api.OK && v.Divisor == 0 && prime.Check(p, v) == api.OK
	}
	for n := mersenne - 200; n <= mersenne; n++ {
		if list, e := prime.Factor(n); e != api.OK || !isFactorization(n, list, decided) {
			t.Errorf("Factor(%d) = %v, %d", n, list, e)
		}
	}
	known := map[int][]api.Power{
		1:             nil,
		2:             {{Prime: 2, Exp: 1}},
		360:           {{Prime: 2, Exp: 3}, {Prime: 3, Exp: 2}, {Prime: 5, Exp: 1}},
		1 << 30:       {{Prime: 2, Exp: 30}},
		46337 * 46337: {{Prime: 46337, Exp: 2}},
		mersenne - 1:  {{Prime: 2, Exp: 1}, {Prime: 3, Exp: 2}, {Prime: 7, Exp: 1}, {Prime: 11, Exp: 1}, {Prime: 31, Exp: 1}, {Prime: 151, Exp: 1}, {Prime: 331, Exp: 1}},
		mersenne:      {{Prime: mersenne, Exp: 1}},
	}
	for n, powers := range known {
		if list, e := prime.Factor(n); e != api.OK || !slices.Equal(list, powers) {
			t.Errorf("Factor(%d) = %v, %d", n, list, e)
		}
	}
}

func isFactorization(n int, list []api.Power, isPrime func(int) bool) bool {
	product := 1
	for i, f := range list {
		if i > 0 && f.Prime <= list[i-1].Prime || f.Exp < 1 || !isPrime(f.Prime) {
			return false
		}
		for range f.Exp {
			product *= f.Prime
		}
	}
	return product == n
}

// P1.5: factorizations of products are joined.
func TestFactorProducts(t *testing.T) {
	for a := 1; a <= 80; a++ {
		for _, b := range []int{1, 2, 3, 4, 12, 35, 64, 81, 97, 210, 1001, 30030, 65537, 26843544} {
			joined := map[int]int{}
			for _, n := range []int{a, b} {
				list, _ := prime.Factor(n)
				for _, f := range list {
					joined[f.Prime] += f.Exp
				}
			}
			list, e := prime.Factor(a * b)
			got := map[int]int{}
			for _, f := range list {
				got[f.Prime] = f.Exp
			}
			if e != api.OK || !reflect.DeepEqual(got, joined) {
				t.Errorf("Factor(%d * %d) = %v, %d", a, b, list, e)
			}
		}
	}
}

// Rule 5 and P2: calls change no argument, and results are new memory.
func TestProofMemory(t *testing.T) {
	v := api.Verdict{Proof: proofOf(43)}
	prime.Check(43, v)
	if !reflect.DeepEqual(v.Proof, proofOf(43)) {
		t.Errorf("Check changes its argument: %v", v)
	}
	first, _ := prime.Decide(mersenne)
	second, _ := prime.Decide(mersenne)
	before := textOf(second)
	for i, entry := range first.Proof {
		rest := append(slices.Clone(first.Proof[:i]), first.Proof[i+1:]...)
		others := textOf(api.Verdict{Proof: rest})
		clear(entry.Factors[:cap(entry.Factors)])
		if textOf(api.Verdict{Proof: rest}) != others {
			t.Errorf("the factors of %d share memory with others", entry.P)
		}
	}
	if third, _ := prime.Decide(mersenne); textOf(second) != before || textOf(third) != before {
		t.Errorf("results share memory: %v, %v", second, third)
	}
	list, _ := prime.Factor(360)
	list[0].Prime = 0
	if l, _ := prime.Factor(360); l[0].Prime != 2 {
		t.Errorf("results share memory: %v", l)
	}
}

func textOf(v api.Verdict) string {
	text := strconv.Itoa(v.Divisor)
	for _, e := range v.Proof {
		text += ";" + strconv.Itoa(e.P) + " " + strconv.Itoa(e.Witness)
		for _, q := range e.Factors {
			text += "," + strconv.Itoa(q)
		}
	}
	return text
}
