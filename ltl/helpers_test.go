package ltl_test

import (
	"math/rand"
	"slices"
	"strings"
	"testing"

	"olivette/api"
	"olivette/ltl"
)

// plain is a formula as a word and its parts.
type plain struct {
	word  string
	parts []plain
}

var arities = map[string]int{"true": 0, "false": 0, "p0": 0, "p1": 0, "p2": 0, "p3": 0, "not": 1, "next": 1, "always": 1, "finally": 1, "and": 2, "or": 2, "until": 2, "release": 2}

// plainRead reads a text that is a formula.
func plainRead(t *testing.T, text string) plain {
	t.Helper()
	words := strings.Fields(strings.NewReplacer("(", " ", ")", " ").Replace(text))
	at := 0
	var read func() plain
	read = func() plain {
		p := plain{word: words[at]}
		n, ok := arities[p.word]
		if !ok {
			t.Fatalf("the word %q in %q", p.word, text)
		}
		at++
		for range n {
			p.parts = append(p.parts, read())
		}
		return p
	}
	p := read()
	if at != len(words) {
		t.Fatalf("too many words in %q", text)
	}
	return p
}

func (p plain) text() string {
	if len(p.parts) == 0 {
		return p.word
	}
	text := "(" + p.word
	for _, part := range p.parts {
		text += " " + part.text()
	}
	return text + ")"
}

func (p plain) words() int {
	n := 1
	for _, part := range p.parts {
		n += part.words()
	}
	return n
}

// infinite is the sequence of marks for which a lasso stands. What is true at a position is kept.
type infinite struct {
	stem, loop []int
	kept       map[string]bool
}

func plainValue(stem, loop []int, p plain) bool {
	return infinite{stem, loop, map[string]bool{}}.at(0, p)
}

// at follows the table of the chapter, for a position of the infinite sequence. What is true at all positions of the stem, and of the loop twice, is true at all.
func (s infinite) at(position int, p plain) bool {
	for position >= len(s.stem)+len(s.loop) {
		position -= len(s.loop)
	}
	key := string(rune(position)) + p.text()
	if is, ok := s.kept[key]; ok {
		return is
	}
	s.kept[key] = s.defined(position, p)
	return s.kept[key]
}

func (s infinite) defined(position int, p plain) bool {
	end := position + len(s.stem) + 2*len(s.loop)
	is := func(at, part int) bool { return s.at(at, p.parts[part]) }
	switch p.word {
	case "true", "false":
		return p.word == "true"
	case "not":
		return !is(position, 0)
	case "and":
		return is(position, 0) && is(position, 1)
	case "or":
		return is(position, 0) || is(position, 1)
	case "next":
		return is(position+1, 0)
	case "until":
		for at := position; at < end; at++ {
			if is(at, 1) {
				return true
			}
			if !is(at, 0) {
				return false
			}
		}
		return false
	case "release":
		for at := position; at < end; at++ {
			if !is(at, 1) {
				return false
			}
			if is(at, 0) {
				return true
			}
		}
		return true
	case "always", "finally":
		for at := position; at < end; at++ {
			if is(at, 0) == (p.word == "finally") {
				return p.word == "finally"
			}
		}
		return p.word == "always"
	}
	mark := 0
	if position < len(s.stem) {
		mark = s.stem[position]
	} else {
		mark = s.loop[position-len(s.stem)]
	}
	return mark>>(p.word[1]-'0')&1 == 1
}

// plainRun reports whether the result's lasso is a run of the structure.
func plainRun(s api.Structure, stem, loop []int) bool {
	if len(loop) == 0 || len(loop) > api.MaxLasso || len(stem) > api.MaxLasso {
		return false
	}
	list := slices.Concat(stem, loop, loop)
	for i, state := range list {
		if state < 0 || state >= len(s.Next) || i == 0 && state != 0 || i > 0 && !slices.Contains(s.Next[list[i-1]], state) {
			return false
		}
	}
	return true
}

func marksOf(s api.Structure, states []int) []int {
	var list []int
	for _, state := range states {
		list = append(list, s.Marks[state])
	}
	return list
}

// plainRefuted searches a lasso of at most so many states that refutes the formula.
func plainRefuted(s api.Structure, p plain, most int) bool {
	var grow func(run []int) bool
	grow = func(run []int) bool {
		last := run[len(run)-1]
		for back, state := range run {
			if slices.Contains(s.Next[last], state) && !plainValue(marksOf(s, run[:back]), marksOf(s, run[back:]), p) {
				return true
			}
		}
		if len(run) == most {
			return false
		}
		for _, to := range s.Next[last] {
			if grow(append(slices.Clone(run), to)) {
				return true
			}
		}
		return false
	}
	return grow([]int{0})
}

// allLassos calls visit with all lassos of at most so many numbers, each less than marks.
func allLassos(marks, most int, visit func(stem, loop []int)) {
	var grow func(list []int)
	grow = func(list []int) {
		for back := range list {
			visit(list[:back], list[back:])
		}
		if len(list) < most {
			for mark := range marks {
				grow(append(slices.Clone(list), mark))
			}
		}
	}
	grow(nil)
}

// randomFormula returns a formula of so many words, with the first of the properties.
func randomFormula(random *rand.Rand, words, properties int) plain {
	pick := func(list ...string) string { return list[random.Intn(len(list))] }
	switch {
	case words == 1 && random.Intn(10) == 0:
		return plain{word: pick("true", "false")}
	case words == 1:
		return plain{word: pick([]string{"p0", "p1", "p2", "p3"}[:properties]...)}
	case words == 2 || random.Intn(2) == 0:
		return plain{pick("not", "next", "always", "finally"), []plain{randomFormula(random, words-1, properties)}}
	}
	left := 1 + random.Intn(words-2)
	return plain{pick("and", "or", "until", "release"), []plain{randomFormula(random, left, properties), randomFormula(random, words-1-left, properties)}}
}

// randomStructure returns a structure whose states have at most so many Next.
func randomStructure(random *rand.Rand, states, most, marks int) api.Structure {
	var s api.Structure
	for range states {
		list := random.Perm(states)[:1+random.Intn(min(most, states))]
		slices.Sort(list)
		s.Next = append(s.Next, list)
		s.Marks = append(s.Marks, random.Intn(marks))
	}
	return s
}

func randomMarks(random *rand.Rand, length, marks int) []int {
	var list []int
	for range length {
		list = append(list, random.Intn(marks))
	}
	return list
}

// complete returns the structure in which each state may follow each one.
func complete(marks ...int) api.Structure {
	s := api.Structure{Marks: marks}
	for range marks {
		var list []int
		for to := range marks {
			list = append(list, to)
		}
		s.Next = append(s.Next, list)
	}
	return s
}

func cloned(s api.Structure) api.Structure {
	c := api.Structure{Marks: slices.Clone(s.Marks)}
	for _, list := range s.Next {
		c.Next = append(c.Next, slices.Clone(list))
	}
	return c
}

func equal(s, other api.Structure) bool {
	return slices.Equal(s.Marks, other.Marks) && slices.EqualFunc(s.Next, other.Next, slices.Equal)
}

func isEmpty(r api.Result) bool { return !r.Holds && len(r.Stem) == 0 && len(r.Loop) == 0 }

// holds returns whether the formula holds, and checks a lasso that refutes it.
func holds(t *testing.T, s api.Structure, formula string) bool {
	t.Helper()
	before := cloned(s)
	r, e := ltl.Holds(s, formula)
	if e != api.OK {
		t.Fatalf("Holds(%v, %s) = %d", s, formula, e)
	}
	if r.Holds && len(r.Stem)+len(r.Loop) > 0 {
		t.Fatalf("Holds(%v, %s) = %v", s, formula, r)
	}
	if !r.Holds && (!plainRun(s, r.Stem, r.Loop) || plainValue(marksOf(s, r.Stem), marksOf(s, r.Loop), plainRead(t, formula))) {
		t.Fatalf("Holds(%v, %s) = %v does not refute it", s, formula, r)
	}
	wantCheck(t, s, formula, r, api.OK)
	if !equal(s, before) {
		t.Fatalf("Holds(%v, %s) changes it", before, formula)
	}
	return r.Holds
}

func wantHolds(t *testing.T, s api.Structure, formula string, want bool) {
	t.Helper()
	if is := holds(t, s, formula); is != want {
		t.Errorf("Holds(%v, %s) = %t", s, formula, is)
	}
}

func wantNoHolds(t *testing.T, s api.Structure, formula string, want api.Errno) {
	t.Helper()
	if r, e := ltl.Holds(s, formula); e != want || !isEmpty(r) {
		t.Errorf("Holds(%v, %.100q) = %v, %d; want %d", s, formula, r, e, want)
	}
}

func wantCheck(t *testing.T, s api.Structure, formula string, r api.Result, want api.Errno) {
	t.Helper()
	if e := ltl.Check(s, formula, r); e != want {
		t.Errorf("Check(%v, %.100q, %.200v) = %d; want %d", s, formula, r, e, want)
	}
}

func wantValue(t *testing.T, stem, loop []int, formula string, want bool) {
	t.Helper()
	if is, e := ltl.Value(stem, loop, formula); is != want || e != api.OK {
		t.Errorf("Value(%.100v, %.100v, %s) = %t, %d; want %t", stem, loop, formula, is, e, want)
	}
}

func wantNoValue(t *testing.T, stem, loop []int, formula string, want api.Errno) {
	t.Helper()
	if is, e := ltl.Value(stem, loop, formula); is || e != want {
		t.Errorf("Value(%.100v, %.100v, %.100q) = %t, %d; want %d", stem, loop, formula, is, e, want)
	}
}

func wantPush(t *testing.T, formula, want string) {
	t.Helper()
	if text, e := ltl.Push(formula); text != want || e != api.OK {
		t.Errorf("Push(%s) = %s, %d; want %s", formula, text, e, want)
	}
}

// same returns whether the formulas are the same, and checks a lasso that tells them apart.
func same(t *testing.T, f, g string) bool {
	t.Helper()
	r, e := ltl.Same(f, g)
	if e != api.OK {
		t.Fatalf("Same(%s, %s) = %d", f, g, e)
	}
	if r.Holds && len(r.Stem)+len(r.Loop) > 0 {
		t.Fatalf("Same(%s, %s) = %v", f, g, r)
	}
	if r.Holds {
		return true
	}
	for _, mark := range slices.Concat(r.Stem, r.Loop) {
		if mark < 0 || mark > 15 {
			t.Fatalf("Same(%s, %s) = %v", f, g, r)
		}
	}
	if len(r.Loop) == 0 || plainValue(r.Stem, r.Loop, plainRead(t, f)) == plainValue(r.Stem, r.Loop, plainRead(t, g)) {
		t.Fatalf("Same(%s, %s) = %v does not tell them apart", f, g, r)
	}
	return false
}

func wantSame(t *testing.T, f, g string, want bool) {
	t.Helper()
	if is := same(t, f, g); is != want {
		t.Errorf("Same(%s, %s) = %t", f, g, is)
	}
}

func wantNoSame(t *testing.T, f, g string, want api.Errno) {
	t.Helper()
	if r, e := ltl.Same(f, g); e != want || !isEmpty(r) {
		t.Errorf("Same(%.100q, %.100q) = %v, %d; want %d", f, g, r, e, want)
	}
}
