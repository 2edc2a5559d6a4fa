package ltl

import (
	"slices"

	"olivette/api"
)

// decided returns a right result.
func decided(s api.Structure, f node) api.Result {
	var t table
	at := t.add(f)
	return newMachine(s, t).search([]int{0}, func(now int) bool { return !has(now, at) })
}

// compared returns whether the formulas are true of the same sequences of marks, or a lasso of marks.
func compared(f, g node) api.Result {
	var t table
	a, b := t.add(f), t.add(g)
	s := anything()
	return newMachine(s, t).search(s.Marks, func(now int) bool { return has(now, a) != has(now, b) })
}

// anything returns the structure in which each mark is a state, and may be followed by each one.
func anything() api.Structure {
	var marks []int
	for mark := range mostMark + 1 {
		marks = append(marks, mark)
	}
	return api.Structure{Next: slices.Repeat([][]int{marks}, len(marks)), Marks: marks}
}

func isRight(s api.Structure, f node, r api.Result) bool {
	if r.Holds {
		return len(r.Stem) == 0 && len(r.Loop) == 0 && decided(s, f).Holds
	}
	if !isLasso(r.Stem, r.Loop) || !isRun(s, r.Stem, r.Loop) {
		return false
	}
	return !newLine(marksOf(s, r.Stem), marksOf(s, r.Loop)).begins(f)
}

func marksOf(s api.Structure, states []int) []int {
	var list []int
	for _, state := range states {
		list = append(list, s.Marks[state])
	}
	return list
}
