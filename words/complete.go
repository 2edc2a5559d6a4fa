package words

import (
	"slices"

	"olivette/api"
)

// completed returns the system of the equations after at most so many rounds, and whether it is confluent.
func completed(equations []api.Rule, rounds int) ([]api.Rule, bool, api.Errno) {
	var list []api.Rule
	for _, r := range equations {
		if r.Left != r.Right {
			list = append(list, ruleOf(r.Left, r.Right))
		}
	}
	system, e := fitted(list)
	if e != api.OK {
		return nil, false, e
	}
	for range rounds {
		list, e := enlarged(system)
		if e != api.OK {
			return nil, false, e
		}
		if len(list) == len(system) {
			return system, true, api.OK
		}
		system, e = fitted(list)
		if e != api.OK {
			return nil, false, e
		}
	}
	clash, e := clashOf(system)
	if e != api.OK {
		return nil, false, e
	}
	return system, clash < 0, api.OK
}

// enlarged returns the rules of the system, and one for each pair whose strings have different normal forms.
func enlarged(system []api.Rule) ([]api.Rule, api.Errno) {
	w := newRewriter(system)
	list := slices.Clone(system)
	for a, b := range pairsOf(system) {
		a, b, e := w.normals(a, b)
		if e != api.OK {
			return nil, e
		}
		if a == b {
			continue
		}
		// Pairs that could follow change nothing: the error would be the same.
		if len(list) == api.MaxAdded {
			return nil, api.ErrFull
		}
		list = append(list, ruleOf(a, b))
	}
	return list, api.OK
}

// fitted returns the tidy system of the rules in the list, if it is within the limits of a system.
func fitted(list []api.Rule) ([]api.Rule, api.Errno) {
	system, e := tidied(list)
	if e != api.OK {
		return nil, e
	}
	// A Right is no longer than its Left.
	tooLong := func(r api.Rule) bool { return len(r.Left) > api.MaxSide }
	if len(system) > api.MaxRules || slices.ContainsFunc(system, tooLong) {
		return nil, api.ErrFull
	}
	return system, api.OK
}
