package words

import "olivette/api"

// rewriter makes first steps with a list of rules.
type rewriter struct {
	starting [len(alphabet)][]api.Rule // the rules, in their order, by the first letter of their Left
	longest  int                       // the length of the longest Left
}

func newRewriter(rules []api.Rule) *rewriter {
	w := &rewriter{}
	for _, r := range rules {
		first := r.Left[0] - alphabet[0]
		w.starting[first] = append(w.starting[first], r)
		w.longest = max(w.longest, len(r.Left))
	}
	return w
}

// find returns the place, at from or later, of the first step in the line, and its rule; or false if there is none.
func (w *rewriter) find(line []byte, from int) (int, api.Rule, bool) {
	at, rule, found := from, api.Rule{}, false
search:
	for ; at < len(line); at++ {
		for _, rule = range w.starting[line[at]-alphabet[0]] {
			end := at + len(rule.Left)
			if end <= len(line) && string(line[at:end]) == rule.Left {
				found = true
				break search
			}
		}
	}
	return at, rule, found
}

// normal returns the normal form of s, and the number of first steps that lead to it.
func (w *rewriter) normal(s string) (string, int, api.Errno) {
	line, from := []byte(s), 0
	for steps := 0; ; steps++ {
		at, rule, found := w.find(line, from)
		if !found {
			return string(line), steps, api.OK
		}
		if steps == api.MaxSteps {
			return "", 0, api.ErrFull
		}
		// No Right is longer than its Left, so the line has room for it.
		end := at + copy(line[at:], rule.Right)
		line = append(line[:end], line[at+len(rule.Left):]...)
		// What begins earlier does not reach the letters that are new.
		from = max(0, at-w.longest+1)
	}
}

// normals returns the normal forms of a and b.
func (w *rewriter) normals(a, b string) (string, string, api.Errno) {
	a, _, e := w.normal(a)
	if e != api.OK {
		return "", "", e
	}
	b, _, e = w.normal(b)
	if e != api.OK {
		return "", "", e
	}
	return a, b, api.OK
}
