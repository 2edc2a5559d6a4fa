package ltl

import (
	"slices"

	"olivette/api"
)

// machine has as its moments the states of a structure, each with a set of what will be true at the next position. A path of moments in which every debt is paid again and again is a sequence of states, with all that is true there.
type machine struct {
	table
	next, before [][]int
	marks        []int
	// truth keeps what is true at a state with this mark.
	truth map[outlook]int
	// earlier keeps the outlooks, of those with this mark, at which just this is true of what matters.
	earlier map[outlook][]int
}

// outlook is a mark, and what is true at the next position.
type outlook struct {
	mark, later int
}

func newMachine(s api.Structure, t table) *machine {
	m := machine{table: t, next: s.Next, before: make([][]int, len(s.Next)), marks: s.Marks, truth: map[outlook]int{}, earlier: map[outlook][]int{}}
	for state, list := range s.Next {
		for _, to := range list {
			m.before[to] = append(m.before[to], state)
		}
	}
	for _, mark := range s.Marks {
		if _, ok := m.truth[outlook{mark, 0}]; !ok {
			m.look(mark)
		}
	}
	return &m
}

// look notes what is true, for all that may be true at the next position.
func (m *machine) look(mark int) {
	for later := range 1 << len(m.rows) {
		if later&^m.awaited != 0 {
			continue
		}
		now := m.derived(mark, later)
		m.truth[outlook{mark, later}] = now
		key := outlook{mark, now & m.awaited}
		m.earlier[key] = append(m.earlier[key], later)
	}
}

// moments returns how many numbers there are for moments.
func (m *machine) moments() int { return len(m.next) << len(m.rows) }

func (m *machine) moment(state, later int) int { return state<<len(m.rows) | later }

func (m *machine) state(moment int) int { return moment >> len(m.rows) }

func (m *machine) later(moment int) int { return moment & (1<<len(m.rows) - 1) }

// now returns what is true at a moment.
func (m *machine) now(moment int) int {
	return m.truth[outlook{m.marks[m.state(moment)], m.later(moment)}]
}

// following returns the moments that may follow.
func (m *machine) following(moment int) []int {
	var list []int
	for _, state := range m.next[m.state(moment)] {
		for _, later := range m.earlier[outlook{m.marks[state], m.later(moment)}] {
			list = append(list, m.moment(state, later))
		}
	}
	return list
}

// preceding returns the moments that may come just before.
func (m *machine) preceding(moment int) []int {
	var list []int
	later := m.now(moment) & m.awaited
	for _, state := range m.before[m.state(moment)] {
		list = append(list, m.moment(state, later))
	}
	return list
}

// starts returns the moments of these states at which something is true that is wanted.
func (m *machine) starts(states []int, wanted func(now int) bool) []int {
	var list []int
	for _, state := range states {
		for later := range 1 << len(m.rows) {
			now, ok := m.truth[outlook{m.marks[state], later}]
			if ok && wanted(now) {
				list = append(list, m.moment(state, later))
			}
		}
	}
	return list
}

// isFair reports whether a path can stay for ever among these moments, which lead to each other, with every debt paid again and again.
func (m *machine) isFair(circle []int) bool {
	for _, debt := range m.debts {
		if !slices.ContainsFunc(circle, func(moment int) bool { return m.settles(m.now(moment), debt) }) {
			return false
		}
	}
	return len(circle) > 1 || slices.Contains(m.following(circle[0]), circle[0])
}
