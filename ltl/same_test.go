package ltl_test

import (
	"math/rand"
	"slices"
	"strings"
	"testing"

	"olivette/api"
	"olivette/ltl"
)

// P6.3: what is pushed, rule by rule.
func TestPushKnown(t *testing.T) {
	known := map[string]string{
		"true":                      "true",
		"(not true)":                "false",
		"(not false)":               "true",
		"(not (not true))":          "true",
		"(not p3)":                  "(not p3)",
		"(not (not p2))":            "p2",
		"(not (not (not p1)))":      "(not p1)",
		"(not (and p0 p1))":         "(or (not p0) (not p1))",
		"(not (or p0 (not p1)))":    "(and (not p0) p1)",
		"(not (next p0))":           "(next (not p0))",
		"(not (until p0 (not p1)))": "(release (not p0) p1)",
		"(not (release p0 p1))":     "(until (not p0) (not p1))",
		"(not (always p0))":         "(finally (not p0))",
		"(not (finally p0))":        "(always (not p0))",
		"(and (not (or p0 p1)) p2)": "(and (and (not p0) (not p1)) p2)",
		"(until (not (not p0)) (not (next (not p1))))": "(until p0 (next p1))",
		"(always (not (finally (not (always p0)))))":   "(always (always (always p0)))",
		"(not (and true (or false p0)))":               "(or false (and true (not p0)))",
		"(or (and p0 p1) (release p2 p3))":             "(or (and p0 p1) (release p2 p3))",
		"(not (and (and p0 p1) (and (and p0 p1) p2)))": "(or (or (not p0) (not p1)) (or (or (not p0) (not p1)) (not p2)))",
	}
	for text, want := range known {
		wantPush(t, text, want)
	}
}

// plainPush follows the rules of the chapter, one at a time.
func plainPush(p plain) plain {
	if p.word != "not" {
		var parts []plain
		for _, part := range p.parts {
			parts = append(parts, plainPush(part))
		}
		return plain{p.word, parts}
	}
	inner := p.parts[0]
	switch inner.word {
	case "p0", "p1", "p2", "p3":
		return p
	case "not":
		return plainPush(inner.parts[0])
	}
	words := map[string]string{"true": "false", "false": "true", "and": "or", "or": "and", "until": "release", "release": "until", "always": "finally", "finally": "always", "next": "next"}
	pushed := plain{word: words[inner.word]}
	for _, part := range inner.parts {
		pushed.parts = append(pushed.parts, plainPush(plain{"not", []plain{part}}))
	}
	return pushed
}

// P6.3: what is pushed follows the rules, is true of the same sequences, and stays when it is pushed again.
func TestPushPlain(t *testing.T) {
	random := rand.New(rand.NewSource(7))
	for range 5000 {
		p := randomFormula(random, 1+random.Intn(12), 4)
		want := plainPush(p)
		wantPush(t, p.text(), want.text())
		if want.words() <= api.MaxSize {
			wantPush(t, want.text(), want.text())
		}
		if p.words()+want.words() <= api.MaxSize {
			wantSame(t, p.text(), want.text(), true)
		}
		stem, loop := randomMarks(random, random.Intn(5), 16), randomMarks(random, 1+random.Intn(5), 16)
		wantValue(t, stem, loop, p.text(), plainValue(stem, loop, want))
	}
}

// P6.4 and P6.5: formulas that are the same.
func TestSameKnown(t *testing.T) {
	known := [][2]string{
		{"(until p0 p1)", "(or p1 (and p0 (next (until p0 p1))))"},
		{"(release p0 p1)", "(and p1 (or p0 (next (release p0 p1))))"},
		{"(always p0)", "(and p0 (next (always p0)))"},
		{"(finally p0)", "(or p0 (next (finally p0)))"},
		{"(not (until p0 p1))", "(release (not p0) (not p1))"},
		{"(not (release p0 p1))", "(until (not p0) (not p1))"},
		{"(not (always p0))", "(finally (not p0))"},
		{"(not (finally p0))", "(always (not p0))"},
		{"(not (next p0))", "(next (not p0))"},
		{"(finally p0)", "(until true p0)"},
		{"(always p0)", "(release false p0)"},
		{"(until false p0)", "p0"},
		{"(release true p0)", "p0"},
		{"(until p0 true)", "true"},
		{"(release p0 false)", "false"},
		{"(next true)", "true"},
		{"(always false)", "false"},
		{"(finally (finally p0))", "(finally p0)"},
		{"(always (finally (always p0)))", "(finally (always p0))"},
		{"(finally (always (finally p0)))", "(always (finally p0))"},
		{"(always (next (next p0)))", "(next (next (always p0)))"},
		{"(until p0 (until p0 p1))", "(until p0 p1)"},
		{"(or (finally p0) (finally p1))", "(finally (or p0 p1))"},
		{"(and (always p0) (always p1))", "(always (and p0 p1))"},
		{"(finally (always (or p0 (not p0))))", "true"},
		{"(and (always (finally p0)) (finally (always (not p0))))", "false"},
		{"(next (until p0 p1))", "(until (next p0) (next p1))"},
		{"(and p0 p1)", "(and p1 p0)"},
		{"p2", "(not (not p2))"},
		{"(and p0 (not p0))", "(always (and p3 (not p3)))"},
		{"(release p0 p1)", "(or (until p1 (and p0 p1)) (always p1))"},
	}
	for _, c := range known {
		wantSame(t, c[0], c[1], true)
		wantSame(t, c[1], c[0], true)
	}
}

// P6.4: formulas that are not the same.
func TestSameNot(t *testing.T) {
	known := [][2]string{
		{"true", "false"},
		{"p0", "p1"},
		{"p2", "p3"},
		{"p0", "(not p0)"},
		{"(finally p0)", "p0"},
		{"(finally p0)", "(next (finally p0))"},
		{"(always p0)", "(next (always p0))"},
		{"(always (finally p0))", "(finally (always p0))"},
		{"(until p0 p1)", "(until p1 p0)"},
		{"(until p0 p1)", "(or (until p0 p1) (always p0))"},
		{"(until p0 p1)", "(release p1 p0)"},
		{"(release p0 p1)", "(until p1 p0)"},
		{"(until p0 (until p1 p2))", "(until (until p0 p1) p2)"},
		{"(finally (and p0 p1))", "(and (finally p0) (finally p1))"},
		{"(always (or p0 p1))", "(or (always p0) (always p1))"},
		{"(always (finally (and p0 p1)))", "(and (always (finally p0)) (always (finally p1)))"},
		{"(next (next (next (next (next p0)))))", "(next (next (next (next p0))))"},
		{"(next (next (next (next (next p0)))))", "(next (next (next (next (next p1)))))"},
		{"(next (next (next (next (next (next (next (next (next (next p0))))))))))", "p0"},
		{"(and (and p0 p1) (and p2 p3))", "false"},
		{"(or (or p0 p1) (or p2 p3))", "true"},
	}
	for _, c := range known {
		wantSame(t, c[0], c[1], false)
		wantSame(t, c[1], c[0], false)
	}
}

// P6.4: what is the same is true of the same short lassos.
func TestSamePlain(t *testing.T) {
	random := rand.New(rand.NewSource(8))
	alike := 0
	for range 6000 {
		p, q := randomFormula(random, 1+random.Intn(5), 2), randomFormula(random, 1+random.Intn(5), 2)
		if !same(t, p.text(), q.text()) {
			continue
		}
		alike++
		allLassos(4, 4, func(stem, loop []int) {
			if plainValue(stem, loop, p) != plainValue(stem, loop, q) {
				t.Fatalf("Same(%s, %s) is true; not of %v, %v", p.text(), q.text(), stem, loop)
			}
		})
	}
	if alike < 100 {
		t.Errorf("%d are the same", alike)
	}
}

// P6.4: formulas of as many words as are allowed are told apart, if at all, by lassos that are right.
func TestSameGreat(t *testing.T) {
	random := rand.New(rand.NewSource(9))
	for range 1500 {
		words := 1 + random.Intn(11)
		same(t, randomFormula(random, words, 4).text(), randomFormula(random, 12-words, 4).text())
	}
	six := "(next (next (next (next (next p0)))))"
	wantSame(t, six, six, true)
}

// P6.3 and P6.4: errors and their order.
func TestSameErrors(t *testing.T) {
	deep := func(words int) string {
		return strings.Repeat("(next ", words-1) + "p0" + strings.Repeat(")", words-1)
	}
	for words := range 12 {
		wantNoSame(t, deep(words+1), deep(12-words), api.ErrFull)
	}
	for words := range 11 {
		same(t, deep(words+1), deep(11-words))
	}
	wantNoSame(t, deep(12), deep(12), api.ErrFull)
	wantNoSame(t, deep(12), deep(13), api.ErrSyntax)
	wantNoSame(t, deep(13), deep(1), api.ErrSyntax)
	wantNoSame(t, deep(12), "", api.ErrSyntax)
	wantNoSame(t, "", deep(12), api.ErrSyntax)
	wantNoSame(t, "", "", api.ErrSyntax)
}

// P2: results are new memory, and always the same.
func TestSameMemory(t *testing.T) {
	f, g := "(and p1 (next (finally p0)))", "(finally p0)"
	first, _ := ltl.Same(f, g)
	loop := slices.Clone(first.Loop)
	for i := range first.Stem {
		first.Stem[i] = 100
	}
	_ = append(first.Stem, 100, 100)
	second, _ := ltl.Same(f, g)
	if !slices.Equal(first.Loop, loop) || !slices.Equal(second.Loop, loop) || slices.Contains(second.Stem, 100) {
		t.Errorf("Same = %v and %v share memory", first, second)
	}
}
