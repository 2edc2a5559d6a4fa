package words_test

import (
	"math/rand"
	"slices"
	"strings"
	"testing"

	"olivette/api"
	"olivette/words"
)

// rules reads rules, or equations, like "ba=ab aa=".
func rules(text string) []api.Rule {
	var list []api.Rule
	for _, part := range strings.Fields(text) {
		left, right, _ := strings.Cut(part, "=")
		list = append(list, api.Rule{Left: left, Right: right})
	}
	return list
}

// notLetters are bytes that are no letters, as strings.
func notLetters() []string {
	return []string{"i", "`", "A", "H", "z", " ", "\x00", "\xff", "é", "0", "\n"}
}

// notStrings are strings with other bytes than letters, or with too many letters.
func notStrings(most int) []string {
	list := []string{strings.Repeat("a", most+1), strings.Repeat("abcdefgh", 100000)}
	for _, bad := range notLetters() {
		list = append(list, bad, "abc"+bad, bad+"abc", "a"+bad+"b")
	}
	return list
}

// notEquations are lists of equations one of which is none, or that are too long.
func notEquations() [][]api.Rule {
	list := [][]api.Rule{slices.Repeat(rules("ba=ab"), api.MaxRules+1), slices.Repeat(rules("a=a"), 1000)}
	for _, side := range notStrings(api.MaxSide) {
		list = append(list, []api.Rule{{Left: side}}, []api.Rule{{Right: side}}, []api.Rule{{Left: strings.Repeat("h", api.MaxSide), Right: side}})
		list = append(list, append(rules("ba=ab"), api.Rule{Left: side, Right: "a"}), append([]api.Rule{{Left: side, Right: side}}, rules("ba=ab")...))
	}
	return list
}

// notSystems are lists that are not systems.
func notSystems() [][]api.Rule {
	list := notEquations()
	for _, text := range []string{"=", "a=a", "=a", "a=b", "ab=ba", "a=aa", "b=aa", "h=aa", "gh=hg", "ba=ab a=b", "a=b ba=ab", "ba=ab aa= ba=ba"} {
		list = append(list, rules(text))
	}
	return append(list, rules("a"+strings.Repeat("h", api.MaxSide-1)+"=b"+strings.Repeat("a", api.MaxSide-1)))
}

// isGreater is the order of the strings.
func isGreater(a, b string) bool {
	if len(a) != len(b) {
		return len(a) > len(b)
	}
	return a > b
}

// plainStep is the definition of the first step.
func plainStep(system []api.Rule, s string) (string, bool) {
	for at := range len(s) {
		for _, r := range system {
			if strings.HasPrefix(s[at:], r.Left) {
				return s[:at] + r.Right + s[at+len(r.Left):], true
			}
		}
	}
	return s, false
}

// plainNormal is the definition of the normal form, with the number of steps; or false if there are too many.
func plainNormal(system []api.Rule, s string) (string, int, bool) {
	for steps := 0; ; steps++ {
		next, ok := plainStep(system, s)
		if !ok {
			return s, steps, true
		}
		if steps == api.MaxSteps {
			return "", 0, false
		}
		s = next
	}
}

// plainPairs is the definition of the pairs.
func plainPairs(system []api.Rule) [][2]string {
	var list [][2]string
	for i, r := range system {
		for j, q := range system {
			for k := 1; k <= len(r.Left); k++ {
				if i == j && k == len(r.Left) || k > len(q.Left) || r.Left[len(r.Left)-k:] != q.Left[:k] {
					continue
				}
				s := r.Left + q.Left[k:]
				list = append(list, [2]string{r.Right + s[len(r.Left):], s[:len(s)-len(q.Left)] + q.Right})
			}
			for at := range len(r.Left) {
				end := at + len(q.Left)
				if i != j && at != 0 && end < len(r.Left) && r.Left[at:end] == q.Left {
					list = append(list, [2]string{r.Right, r.Left[:at] + q.Right + r.Left[end:]})
				}
			}
		}
	}
	return list
}

// inOrder returns the rules by the definition of their order, of equal ones only one.
func inOrder(list []api.Rule) []api.Rule {
	var out []api.Rule
	for _, r := range list {
		at := 0
		for at < len(out) && (isGreater(r.Left, out[at].Left) || r.Left == out[at].Left && isGreater(r.Right, out[at].Right)) {
			at++
		}
		if at == len(out) || out[at] != r {
			out = slices.Insert(out, at, r)
		}
	}
	return out
}

// greaterToLesser is the rule of two strings.
func greaterToLesser(a, b string) api.Rule {
	if isGreater(a, b) {
		return api.Rule{Left: a, Right: b}
	}
	return api.Rule{Left: b, Right: a}
}

// plainTidy is the definition of tidying, with the number of moves; or false if a normal form needs too many steps. It ends whatever the number of moves is.
func plainTidy(list []api.Rule) ([]api.Rule, int, bool) {
	list = inOrder(list)
	for moves := 0; ; moves++ {
		at := slices.IndexFunc(list, func(r api.Rule) bool {
			return slices.ContainsFunc(list, func(q api.Rule) bool {
				return q != r && (strings.Contains(r.Left, q.Left) || strings.Contains(r.Right, q.Left))
			})
		})
		if at < 0 {
			return list, moves, true
		}
		others := slices.Concat(list[:at], list[at+1:])
		a, _, good := plainNormal(others, list[at].Left)
		b, _, fine := plainNormal(others, list[at].Right)
		if !good || !fine {
			return nil, moves, false
		}
		list = others
		if a != b {
			list = inOrder(append(others, greaterToLesser(a, b)))
		}
	}
}

// plainFit is a list that is tidied in completion; or false if there is a limit that it, or the tidy one, is not within.
func plainFit(list []api.Rule) ([]api.Rule, bool) {
	if len(list) > api.MaxAdded {
		return nil, false
	}
	out, moves, ok := plainTidy(list)
	if !ok || moves > api.MaxMoves || len(out) > api.MaxRules {
		return nil, false
	}
	for _, r := range out {
		if len(r.Left) > api.MaxSide || len(r.Right) > api.MaxSide {
			return nil, false
		}
	}
	return out, true
}

// plainClashes are the rules for the pairs that have different normal forms, at most so many; or false if a normal form needs too many steps.
func plainClashes(system []api.Rule, most int) ([]api.Rule, bool) {
	var list []api.Rule
	for _, p := range plainPairs(system) {
		if len(list) == most {
			break
		}
		a, _, good := plainNormal(system, p[0])
		b, _, fine := plainNormal(system, p[1])
		if !good || !fine {
			return nil, false
		}
		if a != b {
			list = append(list, greaterToLesser(a, b))
		}
	}
	return list, true
}

// plainComplete is the definition of completion; or false if there is a limit that it is not within.
func plainComplete(equations []api.Rule, rounds int) ([]api.Rule, bool, bool) {
	var list []api.Rule
	for _, r := range equations {
		if r.Left != r.Right {
			list = append(list, greaterToLesser(r.Left, r.Right))
		}
	}
	system, ok := plainFit(list)
	for range rounds {
		var first, all []api.Rule
		if ok {
			first, ok = plainClashes(system, 1)
		}
		if !ok || len(first) == 0 {
			break
		}
		if all, ok = plainClashes(system, 1<<30); ok {
			system, ok = plainFit(slices.Concat(system, all))
		}
	}
	if !ok {
		return nil, false, false
	}
	first, ok := plainClashes(system, 1)
	if !ok {
		return nil, false, false
	}
	return system, len(first) == 0, true
}

// randomString returns a string of at most so many of the first letters.
func randomString(random *rand.Rand, most, letters int) string {
	line := make([]byte, random.Intn(most+1))
	for i := range line {
		line[i] = "abcdefgh"[random.Intn(letters)]
	}
	return string(line)
}

// randomEquations returns at most so many equations.
func randomEquations(random *rand.Rand, most, side, letters int) []api.Rule {
	var list []api.Rule
	for range random.Intn(most + 1) {
		list = append(list, api.Rule{Left: randomString(random, side, letters), Right: randomString(random, side, letters)})
	}
	return list
}

// randomSystem returns at most so many rules, some of them perhaps several times.
func randomSystem(random *rand.Rand, most, side, letters int) []api.Rule {
	var list []api.Rule
	for _, r := range randomEquations(random, most, side, letters) {
		if r.Left == r.Right {
			continue
		}
		list = append(list, greaterToLesser(r.Left, r.Right))
		if random.Intn(10) == 0 {
			list = append(list, list[random.Intn(len(list))])
		}
	}
	return list[:min(len(list), api.MaxRules)]
}

// eachString calls use with all strings of that length of the first letters.
func eachString(length, letters int, use func(string)) {
	if length == 0 {
		use("")
		return
	}
	eachString(length-1, letters, func(s string) {
		for i := range letters {
			use(s + "abcdefgh"[i:i+1])
		}
	})
}

// normal returns what Normal does, without an error.
func normal(t *testing.T, system []api.Rule, s string) string {
	t.Helper()
	form, _, e := words.Normal(system, s)
	if e != api.OK {
		t.Fatalf("Normal(%v, %q): %d", system, s, e)
	}
	return form
}

// complete returns what Complete does, without an error.
func complete(t *testing.T, equations []api.Rule, rounds int) ([]api.Rule, bool) {
	t.Helper()
	before := slices.Clone(equations)
	system, confluent, e := words.Complete(equations, rounds)
	if e != api.OK || !slices.Equal(equations, before) {
		t.Fatalf("Complete(%v, %d) = %v, %t, %d", before, rounds, system, confluent, e)
	}
	return system, confluent
}
