package words

import "olivette/api"

// most is the greatest number of strings that is returned.
const most = 1 << 62

// machine leads from each state to those that follow it by one letter. A normal string is in the state that is its longest end with which a Left begins: that is all that its next letters depend on. A string that is not normal is in no state.
type machine map[string][]string

// newMachine returns the machine for strings of the first letters. The empty string is in the state "".
func newMachine(system []api.Rule, letters int) machine {
	lefts, heads := map[string]bool{}, map[string]bool{"": true}
	for _, r := range system {
		lefts[r.Left] = true
		for n := range len(r.Left) {
			heads[r.Left[:n]] = true
		}
	}
	m := machine{}
	for todo := []string{""}; len(todo) > 0; {
		state := todo[len(todo)-1]
		todo = todo[:len(todo)-1]
		if _, done := m[state]; done {
			continue
		}
		var next []string
		for i := range letters {
			line := state + alphabet[i:i+1]
			if !hasEnd(line, lefts) {
				next = append(next, longestEnd(line, heads))
			}
		}
		m[state] = next
		todo = append(todo, next...)
	}
	return m
}

// hasEnd reports whether the line ends with one of the strings, none of which is empty.
func hasEnd(line string, ends map[string]bool) bool {
	for i := range len(line) {
		if ends[line[i:]] {
			return true
		}
	}
	return false
}

// longestEnd returns the longest of the strings with which the line ends. The empty string is one of them.
func longestEnd(line string, ends map[string]bool) string {
	for !ends[line] {
		line = line[1:]
	}
	return line
}

// counts returns how many strings of each length from 0 to n are in states.
func (m machine) counts(n int) ([]int, api.Errno) {
	numbers := map[string]int{"": 1}
	var list []int
	for {
		all, ok := total(numbers)
		if !ok {
			return nil, api.ErrFull
		}
		list = append(list, all)
		if len(list) > n {
			return list, api.OK
		}
		numbers, ok = m.longer(numbers)
		if !ok {
			return nil, api.ErrFull
		}
	}
}

// longer returns how many strings that are longer by one letter are in each state, or false if they are more than most in one.
func (m machine) longer(numbers map[string]int) (map[string]int, bool) {
	longer := map[string]int{}
	for state, n := range numbers {
		for _, next := range m[state] {
			sum, ok := add(longer[next], n)
			if !ok {
				return nil, false
			}
			longer[next] = sum
		}
	}
	return longer, true
}

func total(numbers map[string]int) (int, bool) {
	sum, ok := 0, true
	for _, n := range numbers {
		if sum, ok = add(sum, n); !ok {
			return 0, false
		}
	}
	return sum, true
}

// add returns a + b, or false if that is more than most.
func add(a, b int) (int, bool) {
	if a > most-b {
		return 0, false
	}
	return a + b, true
}

// sizer keeps how many normal strings lead on from each state, the empty one included, and 0 where it has begun to count them.
type sizer struct {
	machine machine
	sizes   map[string]int
}

// size returns how many strings lead on from the state, or false if they are more than most, or infinitely many.
func (s sizer) size(state string) (int, bool) {
	if n, begun := s.sizes[state]; begun {
		// Where it has not ended, the state leads to itself, time and again.
		return n, n > 0
	}
	s.sizes[state] = 0
	sum := 1
	for _, next := range s.machine[state] {
		n, ok := s.size(next)
		if !ok {
			return 0, false
		}
		if sum, ok = add(sum, n); !ok {
			return 0, false
		}
	}
	s.sizes[state] = sum
	return sum, true
}
