package ltl_test

import (
	"math"
	"math/rand"
	"slices"
	"strings"
	"testing"

	"olivette/api"
	"olivette/ltl"
)

// once is a structure that stays at 0 as long as it likes, and then at 1, which has p0.
func once() api.Structure { return api.Structure{Next: [][]int{{0, 1}, {1}}, Marks: []int{0, 1}} }

// ring is a circle of states, with p0 at the first one, p1 at the third one, and p2 at the last one.
func ring(states int) api.Structure {
	var s api.Structure
	for state := range states {
		s.Next = append(s.Next, []int{(state + 1) % states})
		s.Marks = append(s.Marks, map[int]int{0: 1, 2: 2, states - 1: 4}[state])
	}
	return s
}

// P6.1: results that are known.
func TestHoldsKnown(t *testing.T) {
	alone := api.Structure{Next: [][]int{{0}}, Marks: []int{1}}
	trap := api.Structure{Next: [][]int{{0, 1, 2}, {3}, {2}, {1}}, Marks: []int{0, 1, 2, 0}}
	known := []struct {
		s       api.Structure
		formula string
		want    bool
	}{
		{alone, "(always p0)", true},
		{alone, "(finally p1)", false},
		{alone, "true", true},
		{alone, "false", false},
		{alone, "p0", true},
		{alone, "p1", false},
		{alone, "(until p0 p1)", false},
		{alone, "(release p1 p0)", true},
		{once(), "(finally p0)", false},
		{once(), "(always (or (not p0) (always p0)))", true},
		{once(), "(or (always (not p0)) (finally (always p0)))", true},
		{once(), "(next p0)", false},
		{once(), "(not (next p0))", false},
		{once(), "(until (not p0) p0)", false},
		{once(), "(release p0 (not p0))", false},
		{once(), "(or (next (not p0)) (next (next p0)))", true},
		{ring(5), "(always (finally p0))", true},
		{ring(5), "(finally (always p0))", false},
		{ring(5), "(and (always (finally p0)) (and (always (finally p1)) (always (finally p2))))", true},
		{ring(5), "(not (and (always (finally p0)) (and (always (finally p1)) (always (finally p2)))))", false},
		{ring(16), "(next (next p1))", true},
		{ring(12), "(always (or (not p0) (next (next (next (next (next (next p2))))))))", false},
		{ring(7), "(always (or (not p0) (next (next (next (next (next (next p2))))))))", true},
		{trap, "(or (always (finally p0)) (finally (always p1)))", false}, // it may stay at 0
		{trap, "(or (always (finally (or p0 p1))) (always (not p0)))", true},
		{trap, "(finally (always (not p0)))", false},
		{trap, "(always (or (not p1) (always p1)))", true},
		{complete(0, 1, 2, 3), "(or (always (finally p0)) (finally (always (not p0))))", true},
		{complete(0, 1, 2, 3), "(not (and (always (finally p0)) (always (finally (not p0)))))", false},
	}
	for _, c := range known {
		wantHolds(t, c.s, c.formula, c.want)
	}
}

// P6.1: a structure whose states have one Next each has one run, and what holds is what is true of it.
func TestHoldsOneRun(t *testing.T) {
	random := rand.New(rand.NewSource(1))
	for range 5000 {
		s := randomStructure(random, 1+random.Intn(16), 1, 16)
		p := randomFormula(random, 1+random.Intn(12), 4)
		run, place := []int{}, map[int]int{}
		state := 0
		for ; place[state] == 0; state = s.Next[state][0] {
			run = append(run, state)
			place[state] = len(run)
		}
		back := place[state] - 1
		wantHolds(t, s, p.text(), plainValue(marksOf(s, run[:back]), marksOf(s, run[back:]), p))
	}
}

// P6.1: what holds is refuted by no short lasso, for many structures and formulas.
func TestHoldsPlain(t *testing.T) {
	random := rand.New(rand.NewSource(2))
	count := 0
	for range 4000 {
		s := randomStructure(random, 1+random.Intn(3), 3, 4)
		p := randomFormula(random, 3+random.Intn(6), 2)
		if !holds(t, s, p.text()) {
			continue
		}
		count++
		if plainRefuted(s, p, 6) {
			t.Fatalf("Holds(%v, %s) is true", s, p.text())
		}
	}
	if count < 500 {
		t.Errorf("%d of them hold", count)
	}
}

// P6.1: results for the greatest structures and formulas are right.
func TestHoldsGreat(t *testing.T) {
	random := rand.New(rand.NewSource(3))
	var marks []int
	for mark := range 16 {
		marks = append(marks, mark)
	}
	all := complete(marks...)
	for range 1500 {
		holds(t, all, randomFormula(random, 12, 4).text())
		holds(t, randomStructure(random, 16, 3, 16), randomFormula(random, 12, 4).text())
	}
	deep := func(word string, n int, rest string) string {
		return strings.Repeat("("+word+" ", n) + rest + strings.Repeat(")", n)
	}
	for _, word := range []string{"not", "next", "always", "finally"} {
		wantHolds(t, all, deep(word, 11, "true"), word != "not")
		wantHolds(t, all, deep(word, 11, "p0"), word == "not")
		wantHolds(t, all, deep(word, 11, "false"), word == "not")
	}
	wantHolds(t, all, deep("not", 1, deep("next", 10, "p0")), false)
	wantHolds(t, all, "(not (and (always (finally (next (next (next p0))))) (next (next p1))))", false)
	wantHolds(t, all, "(always (finally "+deep("next", 9, "p0")+"))", false)
	wantHolds(t, all, "(or "+deep("next", 9, "true")+" p0)", true)
	wantHolds(t, all, "(until (until (until (until (until p0 p1) p2) p3) p0) p1)", false)
	wantHolds(t, all, "(release (release (release (release (release p0 p1) p2) p3) p0) true)", true)
}

// P6.1: results that are right, and such that are not.
func TestCheck(t *testing.T) {
	s := once()
	known := []struct {
		formula string
		r       api.Result
		want    api.Errno
	}{
		{"(finally p0)", api.Result{Loop: []int{0}}, api.OK},
		{"(finally p0)", api.Result{Stem: []int{0, 0}, Loop: []int{0, 0, 0}}, api.OK},
		{"(finally p0)", api.Result{Stem: []int{}, Loop: []int{0}}, api.OK},
		{"(finally p0)", api.Result{Loop: []int{0, 1}}, api.ErrAnswer},                  // 0 does not follow 1
		{"(finally p0)", api.Result{Stem: []int{0}, Loop: []int{1}}, api.ErrAnswer},     // p0 comes
		{"(not p0)", api.Result{Loop: []int{1}}, api.ErrAnswer},                         // it does not begin with 0
		{"(not p0)", api.Result{Stem: []int{1}, Loop: []int{1}}, api.ErrAnswer},         // nor does this
		{"(always (not p0))", api.Result{Stem: []int{0}, Loop: []int{1}}, api.OK},       //
		{"(always (not p0))", api.Result{Stem: []int{0, 1}, Loop: []int{1, 1}}, api.OK}, //
		{"(always (not p0))", api.Result{Stem: []int{0, 1}, Loop: []int{0}}, api.ErrAnswer},
		{"(always (not p0))", api.Result{Stem: []int{0}}, api.ErrAnswer}, // no loop
		{"(always (not p0))", api.Result{}, api.ErrAnswer},
		{"(always (not p0))", api.Result{Holds: true}, api.ErrAnswer}, // it does not hold
		{"(finally p0)", api.Result{Stem: []int{0}, Loop: []int{2}}, api.ErrAnswer},
		{"(finally p0)", api.Result{Stem: []int{-1}, Loop: []int{0}}, api.ErrAnswer},
		{"(finally p0)", api.Result{Stem: []int{0, math.MaxInt}, Loop: []int{0}}, api.ErrAnswer},
		{"(finally p0)", api.Result{Stem: []int{0}, Loop: []int{math.MinInt}}, api.ErrAnswer},
		{"(not p0)", api.Result{Holds: true}, api.OK},
		{"(not p0)", api.Result{Holds: true, Stem: []int{}, Loop: []int{}}, api.OK},
		{"(not p0)", api.Result{Holds: true, Loop: []int{0}}, api.ErrAnswer}, // a lasso is too much
		{"(not p0)", api.Result{Holds: true, Stem: []int{0}}, api.ErrAnswer},
		{"(not p0)", api.Result{Loop: []int{0}}, api.ErrAnswer}, // it holds
		{"p0", api.Result{Loop: []int{0}}, api.OK},
	}
	for _, c := range known {
		wantCheck(t, s, c.formula, c.r, c.want)
	}
}

// P6.1: Check is as the definition says, for all short lassos.
func TestCheckPlain(t *testing.T) {
	random := rand.New(rand.NewSource(4))
	for range 60 {
		s := randomStructure(random, 1+random.Intn(3), 2, 4)
		p := randomFormula(random, 1+random.Intn(6), 2)
		allLassos(4, 4, func(stem, loop []int) {
			want := api.ErrAnswer
			if plainRun(s, stem, loop) && !plainValue(marksOf(s, stem), marksOf(s, loop), p) {
				want = api.OK
			}
			wantCheck(t, s, p.text(), api.Result{Stem: stem, Loop: loop}, want)
			wantCheck(t, s, p.text(), api.Result{Holds: true, Stem: stem, Loop: loop}, api.ErrAnswer)
		})
	}
}

// P6.1: the longest lassos that are allowed, and longer ones.
func TestCheckLong(t *testing.T) {
	most, more := make([]int, api.MaxLasso), make([]int, api.MaxLasso+1)
	wantCheck(t, once(), "(finally p0)", api.Result{Stem: most, Loop: most}, api.OK)
	wantCheck(t, once(), "(finally p0)", api.Result{Stem: more, Loop: most}, api.ErrAnswer)
	wantCheck(t, once(), "(finally p0)", api.Result{Stem: most, Loop: more}, api.ErrAnswer)
}

func noStructures() []api.Structure {
	great := complete(make([]int, api.MaxStates+1)...)
	next := func(list ...int) api.Structure {
		return api.Structure{Next: [][]int{{0, 1}, list}, Marks: []int{0, 0}}
	}
	marks := func(list ...int) api.Structure {
		return api.Structure{Next: [][]int{{0, 1}, {0}}, Marks: list}
	}
	return []api.Structure{
		{},
		{Next: [][]int{}, Marks: []int{}},
		{Next: [][]int{{0}}},
		{Marks: []int{0}},
		great,
		next(), next(1, 0), next(0, 0), next(2), next(0, 2), next(-1), next(-1, 0), next(math.MaxInt), next(math.MinInt, 1),
		marks(), marks(0), marks(0, 0, 0), marks(0, 16), marks(-1, 0), marks(math.MaxInt, 0), marks(0, math.MinInt),
		{Next: [][]int{nil}, Marks: []int{0}},
	}
}

// P6.1: what is no structure, and the order of the errors.
func TestHoldsErrors(t *testing.T) {
	for _, s := range noStructures() {
		for _, formula := range []string{"true", "p0", "", "(p0)"} {
			wantNoHolds(t, s, formula, api.ErrArg)
			wantCheck(t, s, formula, api.Result{Holds: true}, api.ErrArg)
			wantCheck(t, s, formula, api.Result{}, api.ErrArg)
		}
	}
	wantNoHolds(t, once(), "(p0)", api.ErrSyntax)
	wantCheck(t, once(), "(p0)", api.Result{Holds: true}, api.ErrSyntax)
	wantCheck(t, once(), "(p0)", api.Result{}, api.ErrSyntax)
	wantHolds(t, complete(make([]int, api.MaxStates)...), "(always (not p0))", true)
	wantHolds(t, complete(15, 0), "(and (and p0 p1) (and p2 p3))", true)
}

// P2: results are new memory, and always the same.
func TestHoldsMemory(t *testing.T) {
	s := ring(6)
	formula := "(not (finally (and p1 (finally p0))))"
	first, _ := ltl.Holds(s, formula)
	second, _ := ltl.Holds(s, formula)
	if !slices.Equal(first.Stem, second.Stem) || !slices.Equal(first.Loop, second.Loop) {
		t.Errorf("Holds = %v and %v", first, second)
	}
	loop := slices.Clone(first.Loop)
	_ = append(first.Stem, 100, 100, 100)
	for i := range first.Stem {
		first.Stem[i] = 100
	}
	if !slices.Equal(first.Loop, loop) || slices.Contains(second.Stem, 100) || !equal(s, ring(6)) {
		t.Errorf("Holds = %v and %v share memory", first, second)
	}
}
