package ltl

import (
	"slices"

	"olivette/api"
)

// search returns a lasso of states that begins with one of these states and makes something true there that is wanted; or that there is none.
//
// It keeps to MaxLasso: a stem visits each of at most 16 * 2^11 moments once. In a circle the truth of always and finally does not change; so with x words next, b until and release, and g always and finally, which are x + 2b + g <= 11 words, it has at most 16 * 2^(x+b) moments, and a loop visits each at most b + g + 1 times: that is 2^15.
func (m *machine) search(states []int, wanted func(now int) bool) api.Result {
	starts := m.starts(states, wanted)
	circle := m.fairCircle(m.finished(starts))
	if circle == nil {
		return api.Result{Holds: true}
	}
	inside := map[int]bool{}
	for _, moment := range circle {
		inside[moment] = true
	}
	stem := m.way(starts, func(int) bool { return true }, func(moment int) bool { return inside[moment] })
	last := len(stem) - 1
	loop := m.loop(stem[last], inside)
	return api.Result{Stem: m.states(stem[:last]), Loop: m.states(loop)}
}

func (m *machine) states(moments []int) []int {
	var list []int
	for _, moment := range moments {
		list = append(list, m.state(moment))
	}
	return list
}

// finished returns all moments to which those lead, in the order in which a search in depth leaves them.
func (m *machine) finished(starts []int) []int {
	seen := make([]bool, m.moments())
	var order, path []int
	var open [][]int // what is to be visited yet from each moment of the path
	enter := func(moment int) {
		if !seen[moment] {
			seen[moment] = true
			path = append(path, moment)
			open = append(open, m.following(moment))
		}
	}
	for _, start := range starts {
		enter(start)
		for len(path) > 0 {
			last := len(path) - 1
			if len(open[last]) == 0 {
				order = append(order, path[last])
				path, open = path[:last], open[:last]
				continue
			}
			moment := open[last][0]
			open[last] = open[last][1:]
			enter(moment)
		}
	}
	return order
}

// fairCircle returns the first greatest set of moments that lead to each other that is fair, or nil. In the reverse of the order in which moments are left, all that lead to a moment, and are not in a set yet, are in a set with it.
func (m *machine) fairCircle(order []int) []int {
	free := make([]bool, m.moments())
	for _, moment := range order {
		free[moment] = true
	}
	for _, moment := range slices.Backward(order) {
		if !free[moment] {
			continue
		}
		free[moment] = false
		circle := []int{moment}
		for i := 0; i < len(circle); i++ {
			for _, to := range m.preceding(circle[i]) {
				if free[to] {
					free[to] = false
					circle = append(circle, to)
				}
			}
		}
		if m.isFair(circle) {
			return circle
		}
	}
	return nil
}

// loop returns a way from the moment back to it, inside, on which all debts are paid; the moment is there once, at the beginning.
func (m *machine) loop(first int, inside map[int]bool) []int {
	list := []int{first}
	visit := func(goal func(int) bool) {
		list = append(list, m.way(m.following(list[len(list)-1]), func(moment int) bool { return inside[moment] }, goal)...)
	}
	for _, debt := range m.debts {
		paid := func(moment int) bool { return m.settles(m.now(moment), debt) }
		if !slices.ContainsFunc(list, paid) {
			visit(paid)
		}
	}
	visit(func(moment int) bool { return moment == first })
	return list[:len(list)-1]
}

// way returns a shortest path of moments that are allowed, from one of those to the goal.
func (m *machine) way(from []int, allowed, goal func(moment int) bool) []int {
	origin := map[int]int{}
	var queue []int
	enter := func(moments []int, by int) {
		for _, moment := range moments {
			if _, seen := origin[moment]; !seen && allowed(moment) {
				origin[moment] = by
				queue = append(queue, moment)
			}
		}
	}
	enter(from, -1)
	for i := 0; i < len(queue); i++ {
		if !goal(queue[i]) {
			enter(m.following(queue[i]), queue[i])
			continue
		}
		var path []int
		for moment := queue[i]; moment >= 0; moment = origin[moment] {
			path = append(path, moment)
		}
		slices.Reverse(path)
		return path
	}
	return nil
}
