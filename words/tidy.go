package words

import (
	"slices"
	"strings"

	"olivette/api"
)

// tidier has different rules, in their order, and among them the open ones: those that have not been found normal by the others since a rule was put in that could change them.
type tidier struct {
	rules []api.Rule
	open  map[api.Rule]bool
}

// tidied returns the tidy system of the rules in the list.
func tidied(list []api.Rule) ([]api.Rule, api.Errno) {
	t := tidier{open: map[api.Rule]bool{}}
	for _, r := range list {
		t.put(r)
	}
	for moves := 0; ; moves++ {
		at := t.first()
		if at < 0 {
			return t.rules, api.OK
		}
		if moves == api.MaxMoves {
			return nil, api.ErrFull
		}
		if e := t.move(at); e != api.OK {
			return nil, e
		}
	}
}

// put puts the rule in at its place, unless it is there already.
func (t *tidier) put(rule api.Rule) {
	at, found := slices.BinarySearchFunc(t.rules, rule, compareRules)
	if found {
		return
	}
	for _, r := range t.rules {
		if changes(rule, r) {
			t.open[r] = true
		}
	}
	t.rules = slices.Insert(t.rules, at, rule)
	t.open[rule] = true
}

// first returns the position of the first rule that is not normal by the others, or -1.
func (t *tidier) first() int {
	for i, rule := range t.rules {
		if !t.open[rule] {
			continue
		}
		if slices.ContainsFunc(t.rules, func(r api.Rule) bool { return r != rule && changes(r, rule) }) {
			return i
		}
		// Taking other rules out leaves it normal.
		delete(t.open, rule)
	}
	return -1
}

// move replaces the sides of the rule at the position by their normal forms by the other rules.
func (t *tidier) move(at int) api.Errno {
	rule := t.rules[at]
	t.rules = slices.Delete(t.rules, at, at+1)
	delete(t.open, rule)
	a, b, e := newRewriter(t.rules).normals(rule.Left, rule.Right)
	if e == api.OK && a != b {
		t.put(ruleOf(a, b))
	}
	return e
}

// changes reports whether there is a step by r in a side of the rule.
func changes(r, rule api.Rule) bool {
	return strings.Contains(rule.Left, r.Left) || strings.Contains(rule.Right, r.Left)
}
