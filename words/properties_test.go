package words_test

import (
	"math/rand"
	"slices"
	"strings"
	"testing"

	"olivette/api"
	"olivette/words"
)

// anyStep makes some step in s.
func anyStep(random *rand.Rand, system []api.Rule, s string) (string, bool) {
	var list []string
	for at := range len(s) {
		for _, r := range system {
			if after, ok := strings.CutPrefix(s[at:], r.Left); ok {
				list = append(list, s[:at]+r.Right+after)
			}
		}
	}
	if len(list) == 0 {
		return s, false
	}
	return list[random.Intn(len(list))], true
}

// replaced is s with one side of an equation, if there is one in s, replaced by the other one, where that makes it not too long.
func replaced(random *rand.Rand, equations []api.Rule, s string) string {
	var list []string
	for at := range len(s) + 1 {
		for _, r := range equations {
			if after, ok := strings.CutPrefix(s[at:], r.Left); ok {
				list = append(list, s[:at]+r.Right+after)
			}
			if after, ok := strings.CutPrefix(s[at:], r.Right); ok {
				list = append(list, s[:at]+r.Left+after)
			}
		}
	}
	list = slices.DeleteFunc(list, func(s string) bool { return len(s) > 60 })
	if len(list) == 0 {
		return s
	}
	return list[random.Intn(len(list))]
}

// P5.5: in a confluent system any steps lead to the normal form, and each one makes the string less.
func TestConfluent(t *testing.T) {
	random := rand.New(rand.NewSource(8))
	found := 0
	for range 20000 {
		letters := 1 + random.Intn(3)
		system := randomSystem(random, 4, 4, letters)
		if n, e := words.Clash(system); n != -1 || e != api.OK || len(system) == 0 {
			continue
		}
		found++
		for range 5 {
			s := randomString(random, 20, letters)
			want := normal(t, system, s)
			for {
				next, ok := anyStep(random, system, s)
				if !ok {
					break
				}
				if !isGreater(s, next) {
					t.Fatalf("%v: %q becomes %q", system, s, next)
				}
				s = next
			}
			if s != want {
				t.Errorf("%v: %q; want %q", system, s, want)
			}
		}
	}
	if found < 1000 {
		t.Errorf("%d systems", found)
	}
}

// P5.5: where the system is confluent, the sides of each equation have the same normal form, and so do strings that lead to each other by equations; its rules are tidy, and completing them changes nothing.
func TestCompleteDecides(t *testing.T) {
	random := rand.New(rand.NewSource(9))
	found := 0
	for range 2000 {
		letters := 1 + random.Intn(3)
		equations, rounds := randomEquations(random, 4, 4, letters), random.Intn(api.MaxRounds+1)
		system, confluent, e := words.Complete(equations, rounds)
		if e != api.OK || !confluent {
			continue
		}
		found++
		wantClash(t, system, -1, api.OK)
		wantTidy(t, system, system)
		wantComplete(t, system, 0, system, true)
		for _, r := range equations {
			wantEqual(t, equations, rounds, r.Left, r.Right, 1, api.OK)
			if a, b := normal(t, system, r.Left), normal(t, system, r.Right); a != b {
				t.Errorf("%v: %q, %q", system, a, b)
			}
		}
		a := randomString(random, 10, letters)
		b := a
		for range 20 {
			b = replaced(random, equations, b)
		}
		wantEqual(t, equations, rounds, a, b, 1, api.OK)
	}
	if found < 1000 {
		t.Errorf("%d systems", found)
	}
}

// group is a group with its equations: each letter stands for a permutation.
type group struct {
	equations string
	letters   []string // the permutations
	size      int
}

func groups() []group {
	return []group{
		{"aa=", []string{"10"}, 2},
		{"aaaaa=", []string{"12340"}, 5},
		{"aaa= bb= ba=aab", []string{"120", "102"}, 6},
		{"aa= bb= aba=bab", []string{"102", "021"}, 6},
		{"aaaa= bb= abab=", []string{"1230", "3210"}, 8},
		{"aaaa= aa=bb ba=aaab", []string{"23107645", "45671032"}, 8},
		{"aaa= bbb= abab=", []string{"1203", "0231"}, 12},
		{"aa= bb= cc= aba=bab bcb=cbc ac=ca", []string{"1023", "0213", "0132"}, 24},
		{"aa= bbb= abababab=", []string{"1023", "0231"}, 24},
		{"aa= bb= cc= dd= aba=bab bcb=cbc cdc=dcd ac=ca ad=da bd=db", []string{"10234", "02134", "01324", "01243"}, 120},
		{"aa= bbb= ababababab=", []string{"10324", "21430"}, 60},
		{"ab= ba= aaaaaaa=", []string{"1234560", "6012345"}, 7},
	}
}

// product is the permutation of the string.
func (g group) product(s string) string {
	points := []byte("01234567"[:len(g.letters[0])])
	for i := range points {
		for j := range len(s) {
			points[i] = g.letters[s[j]-'a'][points[i]-'0']
		}
	}
	return string(points)
}

// P5.5, P5.3, P5.4: strings are equal just if their permutations are, and there is one normal form for each permutation.
func TestGroups(t *testing.T) {
	random := rand.New(rand.NewSource(10))
	for _, g := range groups() {
		equations := rules(g.equations)
		for _, r := range equations {
			if g.product(r.Left) != g.product(r.Right) {
				t.Fatalf("%s: %s, %s", g.equations, r.Left, r.Right)
			}
		}
		system, confluent := complete(t, equations, api.MaxRounds)
		if !confluent {
			t.Errorf("%s: %v", g.equations, system)
			continue
		}
		wantSize(t, system, len(g.letters), g.size)
		for range 100 {
			a, b := randomString(random, 30, len(g.letters)), randomString(random, 4, len(g.letters))
			want := 0
			if g.product(a) == g.product(b) {
				want = 1
			}
			wantEqual(t, equations, api.MaxRounds, a, b, want, api.OK)
			wantEqual(t, equations, api.MaxRounds, a, normal(t, system, a), 1, api.OK)
		}
	}
}

// Rule 5: results share no memory with arguments or with other results.
func TestMemory(t *testing.T) {
	equations := rules("ba=ab aa=")
	spoil := func(list []api.Rule) {
		for i := range list {
			list[i] = api.Rule{Left: "x", Right: "y"}
		}
	}
	for range 2 {
		tidy, _ := words.Tidy(equations)
		spoil(tidy)
		for _, rounds := range []int{0, 1} {
			system, _ := complete(t, equations, rounds)
			spoil(system)
		}
		pairs, _ := words.Pairs(equations)
		pairs[0] = [2]string{"x", "y"}
		counts, _ := words.Count(equations, 2, 3)
		clear(counts)
	}
	if !slices.Equal(equations, rules("ba=ab aa=")) {
		t.Errorf("%v", equations)
	}
	wantPairs(t, equations, [][2]string{{"aba", "b"}, {"a", "a"}})
	wantCount(t, equations, 2, []int{1, 2, 2, 2})
	wantComplete(t, equations, 1, rules("aa= ba=ab"), true)
}
