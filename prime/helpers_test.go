package prime_test

import (
	"math"
	"testing"

	"olivette/api"
)

const mersenne = api.MaxNumber // a prime, and the greatest number

// notNumbers are ints that are not numbers.
var notNumbers = []int{0, -1, -2, -7, math.MinInt, math.MinInt + 1, -mersenne, mersenne + 1, mersenne + 2, 1 << 32, 1<<32 + 7, 1 << 62, math.MaxInt}

// oddInts are ints to try wherever any int is accepted.
var oddInts = append([]int{1, 2, 3, 4, 6, 7, 9, 12, 561, 46337, 46337 * 46337, mersenne - 1, mersenne}, notNumbers...)

// largePrimes are primes of all sorts: next to limits, and 1 more than a multiple of a great power of 2.
var largePrimes = []int{65537, 46337, 1000003, 167772161, 469762049, 754974721, 998244353, 1000000007, 2013265921, 2147483629, mersenne}

// plainPrime decides by the definition.
func plainPrime(n int) bool {
	for d := 2; d < n; d++ {
		if n%d == 0 {
			return false
		}
	}
	return n > 1
}

// plainPower multiplies e times.
func plainPower(a, e, m int) int {
	x := 1 % m
	for range e {
		x = x * a % m
	}
	return x
}

func primesBelow(n int) []int {
	var list []int
	for p := 2; p < n; p++ {
		if plainPrime(p) {
			list = append(list, p)
		}
	}
	return list
}

// want complains unless the result is the one that is wanted; with an error it is 0.
func want(t *testing.T, call string, got int, e api.Errno, value int, errno api.Errno) {
	t.Helper()
	if got != value || e != errno {
		t.Errorf("%s = %d, %d; want %d, %d", call, got, e, value, errno)
	}
}
