package words

import (
	"cmp"
	"strings"

	"olivette/api"
)

// alphabet has the letters of strings.
const alphabet = "abcdefgh"

// mostCounted is the greatest length for which Count counts.
const mostCounted = 40

func isString(s string, most int) bool {
	if len(s) > most {
		return false
	}
	for i := range len(s) {
		if strings.IndexByte(alphabet, s[i]) < 0 {
			return false
		}
	}
	return true
}

func isEquation(r api.Rule) bool {
	return isString(r.Left, api.MaxSide) && isString(r.Right, api.MaxSide)
}

func isSystem(list []api.Rule) bool {
	if len(list) > api.MaxRules {
		return false
	}
	for _, r := range list {
		if !isEquation(r) || compareStrings(r.Left, r.Right) <= 0 {
			return false
		}
	}
	return true
}

// isTask reports whether there are equations that can be completed in so many rounds.
func isTask(equations []api.Rule, rounds int) bool {
	if len(equations) > api.MaxRules || rounds < 0 || rounds > api.MaxRounds {
		return false
	}
	for _, r := range equations {
		if !isEquation(r) {
			return false
		}
	}
	return true
}

func isAlphabet(letters int) bool {
	return letters >= 1 && letters <= len(alphabet)
}

func compareStrings(a, b string) int {
	return cmp.Or(cmp.Compare(len(a), len(b)), strings.Compare(a, b))
}

func compareRules(r, q api.Rule) int {
	return cmp.Or(compareStrings(r.Left, q.Left), compareStrings(r.Right, q.Right))
}

// ruleOf returns the rule from the greater of two different strings to the lesser one.
func ruleOf(a, b string) api.Rule {
	if compareStrings(a, b) < 0 {
		a, b = b, a
	}
	return api.Rule{Left: a, Right: b}
}
