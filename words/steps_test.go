package words_test

import (
	"math/rand"
	"slices"
	"strings"
	"testing"

	"olivette/api"
	"olivette/words"
)

func wantNormal(t *testing.T, system []api.Rule, s, want string, steps int) {
	t.Helper()
	before := slices.Clone(system)
	if form, n, e := words.Normal(system, s); e != api.OK || form != want || n != steps || !slices.Equal(system, before) {
		t.Errorf("Normal(%v, %q) = %q, %d, %d; want %q, %d", before, s, form, n, e, want, steps)
	}
}

func wantNoNormal(t *testing.T, system []api.Rule, s string, want api.Errno) {
	t.Helper()
	if form, n, e := words.Normal(system, s); e != want || form != "" || n != 0 {
		t.Errorf("Normal(%.100v, %.100q) = %q, %d, %d; want %d", system, s, form, n, e, want)
	}
}

func wantPairs(t *testing.T, system []api.Rule, want [][2]string) {
	t.Helper()
	before := slices.Clone(system)
	if list, e := words.Pairs(system); e != api.OK || !slices.Equal(list, want) || !slices.Equal(system, before) {
		t.Errorf("Pairs(%v) = %v, %d; want %v", before, list, e, want)
	}
}

func wantClash(t *testing.T, system []api.Rule, want int, error api.Errno) {
	t.Helper()
	before := slices.Clone(system)
	if n, e := words.Clash(system); e != error || n != want || !slices.Equal(system, before) {
		t.Errorf("Clash(%.200v) = %d, %d; want %d, %d", before, n, e, want, error)
	}
}

// P5.1: normal forms that are known.
func TestNormalKnown(t *testing.T) {
	known := []struct {
		system, s, want string
		steps           int
	}{
		{"", "", "", 0}, {"", "hgfedcba", "hgfedcba", 0}, {"aa=", "", "", 0},
		{"ba=ab aa=", "babab", "bbb", 4},
		{"ba=ab aa=", "bababa", "abbb", 7},
		{"aa=b aa=a", "aaa", "ba", 1}, // the first rule of the list, not the lesser one
		{"aa=a aa=b", "aaa", "a", 2},
		{"aa=b aa=a aa=", "aaaa", "bb", 2},
		{"b= abb=c", "abb", "c", 1}, // what begins first, though it comes later in the list and ends later
		{"b= abb=c", "babb", "c", 2},
		{"bc=a abcd=h", "abcd", "h", 1},
		{"bc=a abcd=h", "abca", "aaa", 1},
		{"a= ab=c", "ab", "b", 1},
		{"ab=c a=", "ab", "c", 1},
		{"cb=a ca=b", "ccb", "b", 2}, // a step makes room for another one that begins earlier
		{"abcdefgh= dh=", "abcddhefgh", "", 2},
		{"h=g g=f f=e e=d d=c c=b b=a a=", "h", "", 8},
		{"h=g g=f f=e e=d d=c c=b b=a a=", "hhh", "", 24},
		{"hgfe=abcd", "hgfehgfehgf", "abcdabcdhgf", 2},
	}
	for _, c := range known {
		wantNormal(t, rules(c.system), c.s, c.want, c.steps)
	}
	wantNormal(t, nil, strings.Repeat("h", api.MaxLine), strings.Repeat("h", api.MaxLine), 0)
	wantNormal(t, rules("h="), strings.Repeat("h", api.MaxLine), "", api.MaxLine)
	side := strings.Repeat("h", api.MaxSide)
	full := slices.Repeat([]api.Rule{{Left: side, Right: strings.Repeat("g", api.MaxSide)}}, api.MaxRules)
	wantNormal(t, full, side+side+"h", strings.Repeat("g", 2*api.MaxSide)+"h", 2)
}

// P5.1: all is as the definitions say, for many systems; also if rules are there several times, or have the same Left.
func TestStepsPlain(t *testing.T) {
	random := rand.New(rand.NewSource(1))
	clashes := 0
	for range 20000 {
		letters := 1 + random.Intn(4)
		system := randomSystem(random, 1+random.Intn(8), 1+random.Intn(6), letters)
		for range 5 {
			s := randomString(random, 40, letters)
			form, steps, ok := plainNormal(system, s)
			if ok {
				wantNormal(t, system, s, form, steps)
			} else {
				wantNoNormal(t, system, s, api.ErrFull)
			}
		}
		pairs := plainPairs(system)
		wantPairs(t, system, pairs)
		first := slices.IndexFunc(pairs, func(p [2]string) bool {
			return normal(t, system, p[0]) != normal(t, system, p[1])
		})
		wantClash(t, system, first, api.OK)
		if first > 0 {
			clashes++
		}
	}
	if clashes < 1000 {
		t.Errorf("%d clashes", clashes)
	}
}

// P5.1: the same for systems of many rules with long sides.
func TestStepsLarge(t *testing.T) {
	random := rand.New(rand.NewSource(2))
	for range 100 {
		letters := 1 + random.Intn(8)
		system := randomSystem(random, api.MaxRules, api.MaxSide, letters)
		s := randomString(random, api.MaxLine, letters)
		form, steps, _ := plainNormal(system, s)
		wantNormal(t, system, s, form, steps)
		wantPairs(t, system, plainPairs(system))
	}
}

// P5.1: pairs that are known: of both kinds, of equal rules, and of a rule with itself.
func TestPairsKnown(t *testing.T) {
	known := []struct {
		system string
		want   [][2]string
	}{
		{"", nil},
		{"ba=ab", nil},
		{"ba=ab aa=", [][2]string{{"aba", "b"}, {"a", "a"}}},
		{"aaa=b", [][2]string{{"baa", "aab"}, {"ba", "ab"}}},
		{"aa=a aa=b", [][2]string{{"aa", "aa"}, {"aa", "ab"}, {"a", "b"}, {"ba", "aa"}, {"b", "a"}, {"ba", "ab"}}},
		{"aa= aa=", [][2]string{{"a", "a"}, {"a", "a"}, {"", ""}, {"a", "a"}, {"", ""}, {"a", "a"}}},
		{"abcb=d b=a", [][2]string{{"d", "abca"}, {"d", "aacb"}}},
		{"b=a abcb=d", [][2]string{{"d", "abca"}, {"d", "aacb"}}},
		{"abc=h ab=g", [][2]string{{"gc", "h"}}},
		{"abc=h bc=g", [][2]string{{"h", "ag"}}},
		{"bbab=h b=", [][2]string{{"hbab", "bbah"}, {"h", "bba"}, {"h", "bab"}, {"bab", "h"}}},
		{"haaah=g a=", [][2]string{{"gaaah", "haaag"}, {"g", "haah"}, {"g", "haah"}, {"g", "haah"}}},
		{"bc=a ab=c", [][2]string{{"cc", "aa"}}},
	}
	for _, c := range known {
		wantPairs(t, rules(c.system), c.want)
	}
	side := strings.Repeat("a", api.MaxSide)
	full := slices.Repeat([]api.Rule{{Left: side, Right: side[1:]}}, api.MaxRules)
	wantPairs(t, full, plainPairs(full))
	wantClash(t, full, -1, api.OK)
}

// P5.1: clashes that are known.
func TestClashKnown(t *testing.T) {
	known := []struct {
		system string
		want   int
	}{
		{"", -1}, {"ba=ab", -1}, {"ba=ab aa=", -1}, {"aa=a", -1}, {"aa=a aa=a", -1},
		{"aaa=b", 0}, {"aa=a aa=b", 1}, {"aa=b aa=a", 0}, {"ab=c bc=a", 0}, {"ba=ab cb=bc ca=ac", -1}, {"ba=ab ca=ac cb=b", -1}, {"aba=a bab=b", -1},
		{"aba=b bab=a", 0}, {"aa=b ba=ab", -1}, {"ba=ab aa=b", -1},
	}
	for _, c := range known {
		wantClash(t, rules(c.system), c.want, api.OK)
	}
}

// P5.1: as many steps as are allowed, and one more.
func TestNormalSteps(t *testing.T) {
	two, three := rules("ca=ba ba=ac"), rules("da=ca ca=ba ba=ad") // a letter passes another one in two, or three, steps
	c, d := strings.Repeat("c", 100), strings.Repeat("d", 59)
	wantNormal(t, two, c+strings.Repeat("a", 100), strings.Repeat("a", 100)+c, api.MaxSteps)
	wantNoNormal(t, three, d+strings.Repeat("a", 113), api.ErrFull) // 20001 steps
	wantNormal(t, three, d+strings.Repeat("a", 112), strings.Repeat("a", 112)+d, 3*59*112)
	wantNoNormal(t, two, strings.Repeat("c", 101)+strings.Repeat("a", 100), api.ErrArg)
}

// counting has rules by which a row of c, followed by ae, counts down: it needs more than MaxSteps steps if it has more than 12 of them. No two of the rules overlap.
const counting = "ba=ag ca=bd dg=cd de=ae"

// longPair returns a tidy system with one pair, of which one string begins to count with n of c; they have different normal forms.
func longPair(n int) []api.Rule {
	return append(rules(counting), rules("hae= "+strings.Repeat("b", 21)+"h="+strings.Repeat("c", n))...)
}

// P5.1: pairs after the first clash are not examined, those before it are.
func TestClashSteps(t *testing.T) {
	for n, want := range map[int]api.Errno{8: api.OK, 21: api.ErrFull} {
		system := longPair(n)
		wantClash(t, system, 0, want)
		wantClash(t, append(rules("ff=b"), system...), 0, api.OK)
		wantClash(t, append(system, rules("ff=b")...), 0, want)
	}
	wantClash(t, append(rules("fff=ff"), longPair(8)...), 2, api.OK)
	wantClash(t, append(rules("fff=ff"), longPair(21)...), 0, api.ErrFull)
}

// P5.1: what is not a system, or not a string.
func TestStepsErrors(t *testing.T) {
	for _, list := range notSystems() {
		wantNoNormal(t, list, "", api.ErrArg)
		wantNoNormal(t, list, "abab", api.ErrArg)
		wantNoNormal(t, list, "i", api.ErrArg)
		if pairs, e := words.Pairs(list); e != api.ErrArg || len(pairs) > 0 {
			t.Errorf("Pairs(%.100v) = %.100v, %d", list, pairs, e)
		}
		wantClash(t, list, 0, api.ErrArg)
	}
	for _, s := range notStrings(api.MaxLine) {
		wantNoNormal(t, nil, s, api.ErrArg)
		wantNoNormal(t, rules("ba=ab aa="), s, api.ErrArg)
	}
}
