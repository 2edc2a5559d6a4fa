package prime

import (
	"cmp"
	"slices"

	"olivette/api"
)

// Decide returns a right verdict for n: its least divisor that is a prime, or a proof that it is prime itself.
func Decide(n int) (api.Verdict, api.Errno) {
	if !isNumber(n) {
		return api.Verdict{}, api.ErrArg
	}
	if n == 1 {
		return api.Verdict{Divisor: 1}, api.OK
	}
	if least := factors(n)[0].Prime; least < n {
		return api.Verdict{Divisor: least}, api.OK
	}
	return api.Verdict{Proof: prove(n)}, api.OK
}

// Check returns OK if v is a right verdict for n.
func Check(n int, v api.Verdict) api.Errno {
	if !isNumber(n) {
		return api.ErrArg
	}
	if !isRight(n, v) {
		return api.ErrAnswer
	}
	return api.OK
}

// prove returns a right proof for the prime p, with no more entries than it needs.
func prove(p int) []api.Proof {
	var proof []api.Proof
	seen := map[int]bool{p: true}
	todo := []int{p}
	// The list grows while it is walked: an entry asks for entries of its factors.
	for i := 0; i < len(todo); i++ {
		entry := proveBy(todo[i])
		proof = append(proof, entry)
		for _, q := range entry.Factors {
			if !seen[q] {
				seen[q] = true
				todo = append(todo, q)
			}
		}
	}
	slices.SortFunc(proof, func(a, b api.Proof) int { return cmp.Compare(a.P, b.P) })
	return proof
}

// proveBy returns the entry of the prime p. The least generator of 2 is 1, which is the Witness that 2 must have.
func proveBy(p int) api.Proof {
	primes := primesOf(p - 1)
	return api.Proof{P: p, Witness: leastGenerator(p, primes), Factors: primes}
}

func isRight(n int, v api.Verdict) bool {
	if v.Divisor == 0 {
		return isProof(n, v.Proof)
	}
	if len(v.Proof) > 0 {
		return false
	}
	if n == 1 {
		return v.Divisor == 1
	}
	return v.Divisor > 1 && v.Divisor < n && n%v.Divisor == 0
}

// isProof reports whether the proof is right for n.
func isProof(n int, proof []api.Proof) bool {
	last := 1
	earlier := map[int]bool{}
	for _, entry := range proof {
		// No P may exceed n, the last one: this also keeps the powers of an entry within an int.
		if entry.P <= last || entry.P > n || !isEntry(entry, earlier) {
			return false
		}
		last = entry.P
		earlier[last] = true
	}
	return len(proof) > 0 && last == n
}

// isEntry reports whether the entry, whose P is a number from 2 on, proves that P is prime if those that are earlier are.
func isEntry(entry api.Proof, earlier map[int]bool) bool {
	if entry.P == 2 {
		return entry.Witness == 1 && len(entry.Factors) == 0
	}
	if entry.P%2 == 0 || entry.Witness < 2 || entry.Witness >= entry.P {
		return false
	}
	return areFactors(entry.P-1, entry.Factors, earlier) && isWitness(entry)
}

// areFactors reports whether the list has just the primes that divide n, all of them earlier ones, in ascending order.
func areFactors(n int, list []int, earlier map[int]bool) bool {
	last := 1
	rest := n
	for _, q := range list {
		if q <= last || !earlier[q] || rest%q != 0 {
			return false
		}
		for rest%q == 0 {
			rest /= q
		}
		last = q
	}
	return rest == 1
}

// isWitness reports whether the order of the Witness is P - 1, which needs all the factors of P - 1.
func isWitness(entry api.Proof) bool {
	if raise(entry.Witness, entry.P-1, entry.P) != 1 {
		return false
	}
	return generates(entry.Witness, entry.P, entry.Factors)
}
