package prime

import "olivette/api"

const (
	maxCommon   = 32      // positions of the lists of Common
	maxMultiple = 1 << 62 // the least common multiple of Common
)

// Common returns the least number, not negative, that leaves all the rests modulo the moduli, and the least common multiple of the moduli.
func Common(rests, moduli []int) (int, int, api.Errno) {
	if !areRests(rests, moduli) {
		return 0, 0, api.ErrArg
	}
	// A multiple that is too great comes before rests that do not agree.
	if !isMultipleSmall(moduli) {
		return 0, 0, api.ErrArg
	}
	x, multiple := 0, 1
	for i, m := range moduli {
		divisor := gcd(multiple, m)
		gap := rests[i] - x
		if gap%divisor != 0 {
			return 0, 0, api.ErrNone
		}
		x += multiple * timesToClose(gap/divisor, multiple/divisor, m/divisor)
		multiple *= m / divisor
	}
	return x, multiple, api.OK
}

// areRests reports whether the lists are such as Common takes, but for the least common multiple.
func areRests(rests, moduli []int) bool {
	if len(rests) != len(moduli) || len(moduli) > maxCommon {
		return false
	}
	for i, m := range moduli {
		if !isRest(rests[i], m) {
			return false
		}
	}
	return true
}

func isMultipleSmall(moduli []int) bool {
	multiple := 1
	for _, m := range moduli {
		more := m / gcd(multiple, m)
		if multiple > maxMultiple/more {
			return false
		}
		multiple *= more
	}
	return true
}

// timesToClose returns the least t, not negative, for which step * t is gap modulo m; step and m have no divisor in common.
func timesToClose(gap, step, m int) int {
	gap %= m
	if gap < 0 {
		gap += m
	}
	return gap * invert(step%m, m) % m
}
