package words

import (
	"iter"
	"strings"

	"olivette/api"
)

// pairsOf ranges over all pairs of the system, in their order.
func pairsOf(system []api.Rule) iter.Seq2[string, string] {
	return func(yield func(string, string) bool) {
		for i, r := range system {
			for j, q := range system {
				if !overlaps(r, q, i == j, yield) || !insides(r, q, yield) {
					return
				}
			}
		}
	}
}

// overlaps yields the pairs for which the end of the Left of r is the beginning of that of q. It returns false if yield does.
func overlaps(r, q api.Rule, same bool, yield func(string, string) bool) bool {
	for k := 1; k <= min(len(r.Left), len(q.Left)); k++ {
		before, shared := r.Left[:len(r.Left)-k], r.Left[len(r.Left)-k:]
		if same && before == "" {
			break
		}
		after, ok := strings.CutPrefix(q.Left, shared)
		if ok && !yield(r.Right+after, before+q.Right) {
			return false
		}
	}
	return true
}

// insides yields the pairs for which the Left of q is inside that of r, which that of r itself is not. It returns false if yield does.
func insides(r, q api.Rule, yield func(string, string) bool) bool {
	for at := 1; at+len(q.Left) < len(r.Left); at++ {
		after, ok := strings.CutPrefix(r.Left[at:], q.Left)
		if ok && !yield(r.Right, r.Left[:at]+q.Right+after) {
			return false
		}
	}
	return true
}

// clashOf returns the position of the first pair whose strings have different normal forms, or -1.
func clashOf(system []api.Rule) (int, api.Errno) {
	w := newRewriter(system)
	position := 0
	for a, b := range pairsOf(system) {
		a, b, e := w.normals(a, b)
		if e != api.OK {
			return 0, e
		}
		if a != b {
			return position, api.OK
		}
		position++
	}
	return -1, api.OK
}
