package ltl_test

import (
	"math/rand"
	"slices"
	"testing"

	"olivette/api"
)

// P6.5: a formula and its `not` do not both hold, and P3: nothing has certificates for both answers.
func TestNotBoth(t *testing.T) {
	random := rand.New(rand.NewSource(10))
	for range 3000 {
		s := randomStructure(random, 1+random.Intn(6), 3, 16)
		text := randomFormula(random, 1+random.Intn(11), 4).text()
		first, second := holds(t, s, text), holds(t, s, "(not "+text+")")
		if first && second {
			t.Errorf("%s and its not both hold of %v", text, s)
		}
		if !first {
			wantCheck(t, s, text, api.Result{Holds: true}, api.ErrAnswer)
		}
	}
}

// P6.5: what holds of a structure holds of each one with fewer Next.
func TestFewerNext(t *testing.T) {
	random := rand.New(rand.NewSource(11))
	count := 0
	for range 4000 {
		s := randomStructure(random, 2+random.Intn(5), 4, 4)
		text := randomFormula(random, 1+random.Intn(9), 2).text()
		if !holds(t, s, text) {
			continue
		}
		fewer := cloned(s)
		for state, list := range fewer.Next {
			if len(list) > 1 {
				at := random.Intn(len(list))
				fewer.Next[state] = slices.Delete(list, at, at+1)
				count++
			}
		}
		wantHolds(t, fewer, text, true)
	}
	if count < 500 {
		t.Errorf("%d Next were left out", count)
	}
}

// P6.5: words are dual to each other, and formulas unfold, whatever their parts are.
func TestLaws(t *testing.T) {
	random := rand.New(rand.NewSource(12))
	for range 1500 {
		f, g := randomFormula(random, 1+random.Intn(2), 4).text(), randomFormula(random, 1, 4).text()
		wantSame(t, "(always "+f+")", "(not (finally (not "+f+")))", true)
		wantSame(t, "(finally "+f+")", "(or "+f+" (next (finally "+f+")))", true)
		wantSame(t, "(always "+f+")", "(and "+f+" (next (always "+f+")))", true)
		wantSame(t, "(until "+f+" "+g+")", "(not (release (not "+f+") (not "+g+")))", true)
	}
	for _, f := range []string{"p0", "p1", "true", "false"} {
		for _, g := range []string{"p0", "p2", "true", "false"} {
			wantSame(t, "(until "+f+" "+g+")", "(or "+g+" (and "+f+" (next (until "+f+" "+g+"))))", true)
			wantSame(t, "(release "+f+" "+g+")", "(and "+g+" (or "+f+" (next (release "+f+" "+g+"))))", true)
		}
	}
}

// P6.5: formulas and what they unfold to have the same values and hold of the same structures, as far as they fit.
func TestUnfolding(t *testing.T) {
	random := rand.New(rand.NewSource(13))
	for range 2000 {
		f, g := randomFormula(random, 1+random.Intn(2), 4), randomFormula(random, 1, 4)
		whole := plain{"until", []plain{f, g}}
		unfolded := plain{"or", []plain{g, {"and", []plain{f, {"next", []plain{whole}}}}}}
		stem, loop := randomMarks(random, random.Intn(6), 16), randomMarks(random, 1+random.Intn(6), 16)
		wantValue(t, stem, loop, unfolded.text(), plainValue(stem, loop, whole))
		s := randomStructure(random, 1+random.Intn(5), 3, 16)
		wantHolds(t, s, unfolded.text(), holds(t, s, whole.text()))
	}
}
