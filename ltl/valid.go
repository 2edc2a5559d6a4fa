package ltl

import (
	"slices"

	"olivette/api"
)

// mostMark is the greatest mark: it has all properties.
const mostMark = 15

func isStructure(s api.Structure) bool {
	states := len(s.Next)
	if states < 1 || states > api.MaxStates || len(s.Marks) != states || !areMarks(s.Marks) {
		return false
	}
	for _, list := range s.Next {
		if !areStates(list, states) {
			return false
		}
	}
	return true
}

// areStates reports whether the list has at least one state, ascending, each once.
func areStates(list []int, states int) bool {
	last := -1
	for _, state := range list {
		if state <= last || state >= states {
			return false
		}
		last = state
	}
	return last >= 0
}

func areMarks(list []int) bool {
	return !slices.ContainsFunc(list, func(mark int) bool { return mark < 0 || mark > mostMark })
}

func isLasso(stem, loop []int) bool {
	return len(loop) > 0 && len(loop) <= api.MaxLasso && len(stem) <= api.MaxLasso
}

// isRun reports whether the sequence for which a lasso stands is a run of the structure.
func isRun(s api.Structure, stem, loop []int) bool {
	list := slices.Concat(stem, loop, loop[:1])
	if list[0] != 0 {
		return false
	}
	for i, state := range list[1:] {
		if !slices.Contains(s.Next[list[i]], state) {
			return false
		}
	}
	return true
}
