package words_test

import (
	"math"
	"math/rand"
	"slices"
	"strings"
	"testing"

	"olivette/api"
	"olivette/words"
)

func wantTidy(t *testing.T, system, want []api.Rule) {
	t.Helper()
	before := slices.Clone(system)
	if list, e := words.Tidy(system); e != api.OK || !slices.Equal(list, want) || !slices.Equal(system, before) {
		t.Errorf("Tidy(%.500v) = %.500v, %d; want %.500v", before, list, e, want)
	}
}

func wantNoTidy(t *testing.T, system []api.Rule, want api.Errno) {
	t.Helper()
	if list, e := words.Tidy(system); e != want || len(list) > 0 {
		t.Errorf("Tidy(%.200v) = %v, %d; want %d", system, list, e, want)
	}
}

func wantComplete(t *testing.T, equations []api.Rule, rounds int, want []api.Rule, confluent bool) {
	t.Helper()
	if system, ok := complete(t, equations, rounds); !slices.Equal(system, want) || ok != confluent {
		t.Errorf("Complete(%.500v, %d) = %.500v, %t; want %.500v, %t", equations, rounds, system, ok, want, confluent)
	}
}

func wantNoComplete(t *testing.T, equations []api.Rule, rounds int, want api.Errno) {
	t.Helper()
	if system, confluent, e := words.Complete(equations, rounds); e != want || len(system) > 0 || confluent {
		t.Errorf("Complete(%.200v, %d) = %v, %t, %d; want %d", equations, rounds, system, confluent, e, want)
	}
}

func wantEqual(t *testing.T, equations []api.Rule, rounds int, a, b string, want int, error api.Errno) {
	t.Helper()
	before := slices.Clone(equations)
	if n, e := words.Equal(equations, rounds, a, b); n != want || e != error || !slices.Equal(equations, before) {
		t.Errorf("Equal(%.200v, %d, %.100q, %.100q) = %d, %d; want %d, %d", before, rounds, a, b, n, e, want, error)
	}
}

// P5.2: tidy systems that are known.
func TestTidyKnown(t *testing.T) {
	known := []struct{ system, want string }{
		{"", ""},
		{"ba=ab", "ba=ab"},
		{"ba=ab aa=", "aa= ba=ab"},
		{"c=a aa= b=a", "b=a c=a aa="}, // shorter ones first, then byte by byte
		{"aa=a a=", "a="},
		{"aa= aa= aa=", "aa="},
		{"b=a c=b", "b=a c=a"}, // a Right that is not normal
		{"c=b b=a", "b=a c=a"},
		{"aa=b aa=a", "b=a aa=a"}, // one Left with two Rights: the lesser one is left
		{"aa=a aa=b aa=", "a= b="},
		{"bab=b ab=a", "ab=a ba=b"}, // a Left that is not normal
		{"aba=b ab=a", "ab=a aa=b"},
		{"ab=a aab=aa", "ab=a"}, // both sides become the same
		{"h=g g=f f=e e=d d=c c=b b=a a=", "a= b= c= d= e= f= g= h="},
	}
	for _, c := range known {
		want := rules(c.want)
		if len(want) > 1 {
			want = inOrder(want)
		}
		wantTidy(t, rules(c.system), want)
	}
}

// P5.2: tidy systems are as the definition says, for many systems.
func TestTidyPlain(t *testing.T) {
	random := rand.New(rand.NewSource(3))
	most := 0
	for i := range 20000 {
		rules, side, letters := 1+random.Intn(8), 1+random.Intn(6), 1+random.Intn(4)
		if i%20 == 0 {
			rules, side, letters = api.MaxRules, 1+random.Intn(api.MaxSide), 1+random.Intn(8)
		}
		system := randomSystem(random, rules, side, letters)
		want, moves, ok := plainTidy(system)
		most = max(most, moves)
		if !ok || moves > api.MaxMoves {
			wantNoTidy(t, system, api.ErrFull)
			continue
		}
		wantTidy(t, system, want)
		wantTidy(t, want, want)
		slices.Reverse(system)
		wantTidy(t, system, want)
	}
	if most < 100 {
		t.Errorf("at most %d moves", most)
	}
}

// chain returns 64 rules. One of them leaves out h. The other ones come in their order, and each becomes a rule from a string without h to the next string, which changes most of the rules before it once more: no rule leads to the string at leaf, so the rules before the leaf move once less.
func chain(leaf int) []api.Rule {
	list := rules("h=")
	var sides [][2]string
	for a := range 3 {
		for b := 0; a+b <= 21 && len(sides) < 63; b++ {
			x, y, z := "gfe"[a:a+1], "gfed"[b/7:b/7+1], "gfedcba"[b%7:b%7+1]
			h := func(n int) string { return strings.Repeat("h", n) }
			sides = append(sides, [2]string{h(a) + x + h(b) + y + h(21-a-b) + z, x + y + z})
		}
	}
	for i, side := range sides {
		next := i + 1
		if next == leaf {
			next++
		}
		right := "a"
		if next < len(sides) {
			right = sides[next][1]
		}
		list = append(list, api.Rule{Left: side[0], Right: right})
	}
	return list
}

// P5.2: as many moves as are allowed, and one more.
func TestTidyMoves(t *testing.T) {
	for leaf, moves := range map[int]int{0: 2016, 15: 2001, 16: 2000, 40: 1976} {
		system := chain(leaf)
		want, n, ok := plainTidy(system)
		if n != moves || !ok {
			t.Fatalf("%d moves; want %d", n, moves)
		}
		if moves > api.MaxMoves {
			wantNoTidy(t, system, api.ErrFull)
			wantNoComplete(t, system, 0, api.ErrFull)
			wantEqual(t, system, 0, "", "", 0, api.ErrFull)
			continue
		}
		wantTidy(t, system, want)
		wantComplete(t, system, 0, want, false)
	}
}

// P5.2: more steps for a side than are allowed.
func TestTidySteps(t *testing.T) {
	few := append(rules(counting), rules(strings.Repeat("c", 10)+"ae=")...)
	want, _, _ := plainTidy(few)
	wantTidy(t, few, want)
	many := append(rules(counting), rules(strings.Repeat("c", 22)+"ae=")...)
	wantNoTidy(t, many, api.ErrFull)
	wantNoComplete(t, many, 0, api.ErrFull)
	right := append(rules(counting), rules(strings.Repeat("h", 24)+"="+strings.Repeat("c", 22)+"ae")...)
	wantNoTidy(t, right, api.ErrFull)
}

// P5.2: completions that are known.
func TestCompleteKnown(t *testing.T) {
	known := []struct {
		equations string
		rounds    int
		want      string
		confluent bool
	}{
		{"", 0, "", true},
		{"", api.MaxRounds, "", true},
		{"=", 12, "", true},
		{"abc=abc", 12, "", true},
		{"=a", 12, "a=", true},
		{"a=b", 0, "b=a", true},
		{"ab=ba", 3, "ba=ab", true},
		{"ba=ab aa=", 0, "aa= ba=ab", true},
		{"=aa aa= ba=ab ab=ba", 12, "aa= ba=ab", true},
		{"aaa=b", 0, "aaa=b", false},
		{"aaa=b", 1, "ba=ab aaa=b", true},
		{"aaa=b", 12, "ba=ab aaa=b", true},
		{"aba=b bab=a", 0, "aba=b bab=a", false},
		{"ab=c bc=a ca=b", 0, "ab=c bc=a ca=b", false},
		{"aaa= bb= ba=aab", 0, "bb= aaa= aab=ba", false},
		{"aa= bb= ab=ba", 12, "aa= bb= ba=ab", true},
	}
	for _, c := range known {
		wantComplete(t, rules(c.equations), c.rounds, inOrder(rules(c.want)), c.confluent)
	}
}

// P5.2: completions are as the definition says, for many equations and all numbers of rounds.
func TestCompletePlain(t *testing.T) {
	random := rand.New(rand.NewSource(4))
	found := map[[2]bool]int{}
	for i := range 5000 {
		number, side, letters := 1+random.Intn(6), 1+random.Intn(5), 1+random.Intn(3)
		if i%50 == 0 {
			number, side, letters = 1+random.Intn(30), 1+random.Intn(12), 1+random.Intn(8)
		}
		equations, rounds := randomEquations(random, number, side, letters), random.Intn(5)
		want, confluent, ok := plainComplete(equations, rounds)
		found[[2]bool{ok, confluent}]++
		if !ok {
			wantNoComplete(t, equations, rounds, api.ErrFull)
			continue
		}
		wantComplete(t, equations, rounds, want, confluent)
	}
	if found[[2]bool{true, true}] < 500 || found[[2]bool{true, false}] < 200 || found[[2]bool{false, false}] < 20 {
		t.Errorf("%v", found)
	}
}

// some returns the first strings of that length of the letters.
func some(number, length int, letters string) []string {
	list := []string{""}
	for range length {
		var longer []string
		for _, s := range list {
			for i := range letters {
				longer = append(longer, s+letters[i:i+1])
			}
		}
		list = longer
	}
	return list[:number]
}

// crossed returns the rules from u, followed by a, to nothing, and from a, followed by v, to the string for v, for all u and v: each u and each v give a pair with different normal forms.
func crossed(us, vs []string, right func(int) string) []api.Rule {
	var list []api.Rule
	for _, u := range us {
		list = append(list, api.Rule{Left: u + "a"})
	}
	for i, v := range vs {
		list = append(list, api.Rule{Left: "a" + v, Right: right(i)})
	}
	return list
}

// P5.2: as many rules as are allowed in a list that is to be tidied, and one more.
func TestCompleteAdded(t *testing.T) {
	list := crossed(some(19, 3, "bcd"), some(19, 5, "gh"), func(int) string { return "" })
	list = append(list, rules("ef=")...)
	if clashes, _ := plainClashes(list, 1000); len(list)+len(clashes) != api.MaxAdded {
		t.Fatalf("%d rules", len(list)+len(clashes))
	}
	want, confluent, ok := plainComplete(list, 1)
	if !ok {
		t.Fatal("not completed")
	}
	wantComplete(t, list, 1, want, confluent)
	list = append(list, rules("eaf=")...)
	wantComplete(t, list, 0, inOrder(list), false)
	wantNoComplete(t, list, 1, api.ErrFull)
	wantNoComplete(t, list, 12, api.ErrFull)
}

// P5.2: as many rules as are allowed in a tidy system, and one more.
func TestCompleteRules(t *testing.T) {
	rights := some(12, 4, "ef")
	list := crossed(some(4, 3, "bc"), some(12, 4, "gh"), func(i int) string { return rights[i] })
	system, confluent := complete(t, list, 1)
	if len(system) != api.MaxRules || !confluent {
		t.Errorf("%d rules, %t", len(system), confluent)
	}
	wantComplete(t, list, 12, system, true)
	list = append(list, rules("dd=")...)
	wantComplete(t, list, 0, inOrder(list), false)
	wantNoComplete(t, list, 1, api.ErrFull)
}

// P5.2: sides as long as is allowed, and longer by one letter.
func TestCompleteSides(t *testing.T) {
	b := strings.Repeat("b", 22)
	wantComplete(t, rules(b+"h= hg=cc"), 1, rules("hg=cc "+b+"h= "+b+"cc=g"), true)
	wantComplete(t, rules(b+"bh= hg=cc"), 0, rules("hg=cc "+b+"bh="), false)
	wantNoComplete(t, rules(b+"bh= hg=cc"), 1, api.ErrFull)
}

// P5.2: in a round all pairs are examined, and in the end only those up to the first clash.
func TestCompleteSteps(t *testing.T) {
	few, many := longPair(8), longPair(21)
	wantComplete(t, few, 0, inOrder(few), false)
	want, confluent, ok := plainComplete(few, 1)
	if !ok {
		t.Fatal("not completed")
	}
	wantComplete(t, few, 1, want, confluent)
	wantNoComplete(t, many, 0, api.ErrFull)
	many = append(many, rules("ff=b")...)
	wantComplete(t, many, 0, inOrder(many), false)
	wantNoComplete(t, many, 1, api.ErrFull)
}

// P5.2: what is not a system, not equations, or not a number of rounds.
func TestCompleteErrors(t *testing.T) {
	for _, list := range notSystems() {
		wantNoTidy(t, list, api.ErrArg)
	}
	for _, list := range notEquations() {
		wantNoComplete(t, list, 0, api.ErrArg)
		wantNoComplete(t, list, 12, api.ErrArg)
		wantEqual(t, list, 12, "a", "a", 0, api.ErrArg)
	}
	for _, list := range [][]api.Rule{nil, rules("ba=ab aa="), chain(0)} {
		for _, rounds := range []int{-1, api.MaxRounds + 1, math.MinInt, math.MaxInt} {
			wantNoComplete(t, list, rounds, api.ErrArg)
			wantEqual(t, list, rounds, "a", "a", 0, api.ErrArg)
		}
		for _, s := range notStrings(api.MaxLine) {
			wantEqual(t, list, 0, s, "", 0, api.ErrArg)
			wantEqual(t, list, 0, "", s, 0, api.ErrArg)
			wantEqual(t, list, 0, s, s, 0, api.ErrArg)
		}
	}
	side := strings.Repeat("a", api.MaxSide)
	wantComplete(t, slices.Repeat([]api.Rule{{Left: side[1:], Right: side}}, api.MaxRules), 12, []api.Rule{{Left: side, Right: side[1:]}}, true)
}

// P5.3: answers that are known.
func TestEqualKnown(t *testing.T) {
	known := []struct {
		equations string
		rounds    int
		a, b      string
		want      int
	}{
		{"", 0, "", "", 1},
		{"", 12, "a", "a", 1},
		{"", 12, "a", "b", 0},
		{"aaa= bb= ba=aab", 12, "abab", "", 1},
		{"aaa= bb= ba=aab", 12, "ab", "ba", 0},
		{"aaa= bb= ba=aab", 12, "ab", "baa", 1},
		{"ab=ba", 0, "babaab", "aaabbb", 1},
		{"ab=ba", 0, "babaab", "aabbbb", 0},
		{"aaa=b", 0, "aaaaa", "bab", -1},
		{"aaa=b", 0, "aaaa", "ba", 1},
		{"aaa=b", 0, "ab", "ba", -1}, // they are equal, but that takes a round
		{"aaa=b", 1, "ab", "ba", 1},
		{"aaa=b", 1, "ab", "bb", 0},
		{"ab=c bc=a ca=b", 0, "a", "b", -1},
		{"a=", 12, strings.Repeat("a", api.MaxLine), "", 1},
		{"a=", 12, strings.Repeat("b", api.MaxLine), strings.Repeat("b", api.MaxLine), 1},
	}
	for _, c := range known {
		wantEqual(t, rules(c.equations), c.rounds, c.a, c.b, c.want, api.OK)
		wantEqual(t, rules(c.equations), c.rounds, c.b, c.a, c.want, api.OK)
	}
}

// P5.3: more steps for one of the strings than are allowed.
func TestEqualSteps(t *testing.T) {
	equations := rules(counting)
	few, many := strings.Repeat("c", 10)+"ae", strings.Repeat("c", 21)+"ae"
	wantEqual(t, equations, 12, few, "", 0, api.OK)
	wantEqual(t, equations, 12, few, normal(t, equations, few), 1, api.OK)
	wantEqual(t, equations, 12, many, "", 0, api.ErrFull)
	wantEqual(t, equations, 12, "", many, 0, api.ErrFull)
	wantEqual(t, equations, 12, many, many, 0, api.ErrFull)
}

// P5.3: answers agree with the normal forms by what Complete returns.
func TestEqualPlain(t *testing.T) {
	random := rand.New(rand.NewSource(5))
	found := map[int]int{}
	for range 3000 {
		letters := 1 + random.Intn(3)
		equations, rounds := randomEquations(random, 4, 5, letters), random.Intn(3)
		system, confluent, e := words.Complete(equations, rounds)
		for range 5 {
			a, b := randomString(random, 8, letters), randomString(random, 8, letters)
			if e != api.OK {
				wantEqual(t, equations, rounds, a, b, 0, e)
				continue
			}
			want := -1
			if normal(t, system, a) == normal(t, system, b) {
				want = 1
			} else if confluent {
				want = 0
			}
			found[want]++
			wantEqual(t, equations, rounds, a, b, want, api.OK)
		}
	}
	if len(found) != 3 {
		t.Errorf("%v", found)
	}
}
