package words_test

import (
	"math"
	"math/big"
	"math/rand"
	"slices"
	"strings"
	"testing"

	"olivette/api"
	"olivette/words"
)

// mostStrings is the greatest number of strings that is returned.
const mostStrings = 1 << 62

func wantCount(t *testing.T, system []api.Rule, letters int, want []int) {
	t.Helper()
	before := slices.Clone(system)
	if list, e := words.Count(system, letters, len(want)-1); e != api.OK || !slices.Equal(list, want) || !slices.Equal(system, before) {
		t.Errorf("Count(%v, %d, %d) = %v, %d; want %v", before, letters, len(want)-1, list, e, want)
	}
}

func wantNoCount(t *testing.T, system []api.Rule, letters, n int, want api.Errno) {
	t.Helper()
	if list, e := words.Count(system, letters, n); e != want || len(list) > 0 {
		t.Errorf("Count(%.100v, %d, %d) = %v, %d; want %d", system, letters, n, list, e, want)
	}
}

func wantSize(t *testing.T, system []api.Rule, letters, want int) {
	t.Helper()
	before := slices.Clone(system)
	if n, e := words.Size(system, letters); e != api.OK || n != want || !slices.Equal(system, before) {
		t.Errorf("Size(%v, %d) = %d, %d; want %d", before, letters, n, e, want)
	}
}

func wantNoSize(t *testing.T, system []api.Rule, letters int, want api.Errno) {
	t.Helper()
	if n, e := words.Size(system, letters); e != want || n != 0 {
		t.Errorf("Size(%.100v, %d) = %d, %d; want %d", system, letters, n, e, want)
	}
}

// isNormal is the definition.
func isNormal(system []api.Rule, s string) bool {
	_, ok := plainStep(system, s)
	return !ok
}

// P5.4: the strings of all short lengths are counted one by one; also if rules have letters that the strings have not.
func TestCountPlain(t *testing.T) {
	random := rand.New(rand.NewSource(6))
	for range 400 {
		letters := 1 + random.Intn(3)
		system := randomSystem(random, 1+random.Intn(10), 1+random.Intn(5), min(letters+random.Intn(2), 8))
		var want []int
		for length := range 8 {
			n := 0
			eachString(length, letters, func(s string) {
				if isNormal(system, s) {
					n++
				}
			})
			want = append(want, n)
			wantCount(t, system, letters, want)
		}
	}
}

// made returns how many normal strings of at most so many letters there are. It gives up if there are very many.
func made(system []api.Rule, letters, most int) (int, bool) {
	n, line := 0, []string{""}
	for range most + 1 {
		n += len(line)
		var longer []string
		for _, s := range line {
			for i := range letters {
				if next := s + "abcdefgh"[i:i+1]; isNormal(system, next) {
					longer = append(longer, next)
				}
			}
		}
		line = longer
		if n > 3000 {
			return 0, false
		}
	}
	return n, true
}

// P5.4: all normal strings are made. There are infinitely many just if there is one with more letters than all Lefts have together.
func TestSizePlain(t *testing.T) {
	random := rand.New(rand.NewSource(7))
	finite, infinite := 0, 0
	for range 5000 {
		letters := 1 + random.Intn(3)
		system := randomSystem(random, 1+random.Intn(20), 1+random.Intn(4), letters)
		all := 1
		for _, r := range system {
			all += len(r.Left)
		}
		n, ok := made(system, letters, all-1)
		longer, more := made(system, letters, all)
		if !ok || !more {
			continue
		}
		if n == longer {
			finite++
			wantSize(t, system, letters, n)
		} else {
			infinite++
			wantNoSize(t, system, letters, api.ErrNone)
		}
	}
	if finite < 500 || infinite < 500 {
		t.Errorf("%d, %d", finite, infinite)
	}
}

// P5.4: counts that are known.
func TestCountKnown(t *testing.T) {
	wantCount(t, nil, 2, []int{1, 2, 4, 8})
	wantCount(t, nil, 8, []int{1})
	wantCount(t, nil, 1, slices.Repeat([]int{1}, 41))
	wantCount(t, rules("aa="), 2, []int{1, 2, 3, 5, 8, 13, 21, 34, 55, 89})
	wantCount(t, rules("aa="), 1, []int{1, 1, 0, 0, 0})
	wantCount(t, rules("a="), 1, []int{1, 0, 0})
	wantCount(t, rules("a= b= c="), 3, append([]int{1}, make([]int, 40)...))
	wantCount(t, rules("ba=ab"), 2, []int{1, 2, 3, 4, 5, 6})
	wantCount(t, rules("ba=ab ba=aa"), 2, []int{1, 2, 3, 4, 5, 6})
	wantCount(t, rules("bab=b abab=a"), 1, []int{1, 1, 1, 1})
	wantCount(t, rules("c=b d=b cd=b"), 2, []int{1, 2, 4, 8})
	wantCount(t, rules("hh="), 8, []int{1, 8, 63, 497})
	powers := []int{1}
	for len(powers) <= 40 {
		powers = append(powers, 2*powers[len(powers)-1])
	}
	wantCount(t, nil, 2, powers)
	side := strings.Repeat("a", api.MaxSide)
	wantCount(t, []api.Rule{{Left: side}}, 1, append(slices.Repeat([]int{1}, 24), make([]int, 17)...))
	powers[24]--
	wantCount(t, []api.Rule{{Left: side}}, 2, powers[:25])
}

// descents returns rules for which just the strings are normal whose letters do not descend.
func descents(letters int) []api.Rule {
	var list []api.Rule
	for i := range letters {
		for j := range i {
			a, b := "abcdefgh"[i:i+1], "abcdefgh"[j:j+1]
			list = append(list, api.Rule{Left: a + b, Right: b + a})
		}
	}
	return list
}

// P5.4: strings of 40 letters; where the letters do not descend, it is enough to know how often each one is there.
func TestCountLong(t *testing.T) {
	for letters := 1; letters <= 8; letters++ {
		var want []int
		for n := range 41 {
			want = append(want, int(new(big.Int).Binomial(int64(n+letters-1), int64(n)).Int64()))
		}
		wantCount(t, descents(letters), letters, want)
	}
}

// P5.4: the greatest numbers, and greater ones; those of all states together count.
func TestCountLimit(t *testing.T) {
	each := rules("aa= bb= cc= dd= ee= ff= gg= hh=")
	for _, c := range []struct {
		system      []api.Rule
		letters     int
		first, next int64 // how many strings of one letter there are, and of one more for each that is longer
	}{
		{nil, 4, 4, 4}, {nil, 8, 8, 8}, {nil, 5, 5, 5}, {nil, 6, 6, 6}, {nil, 7, 7, 7}, {each, 8, 8, 7}, {each, 5, 5, 4}, {each, 4, 4, 3},
	} {
		number, most := big.NewInt(c.first), big.NewInt(mostStrings)
		want := []int{1}
		for n := 1; n <= 40; n++ {
			if number.Cmp(most) > 0 {
				wantNoCount(t, c.system, c.letters, n, api.ErrFull)
				continue
			}
			want = append(want, int(number.Int64()))
			wantCount(t, c.system, c.letters, want)
			number.Mul(number, big.NewInt(c.next))
		}
	}
	if list, e := words.Count(nil, 4, 31); e != api.OK || list[31] != mostStrings {
		t.Errorf("%v, %d", list, e)
	}
	apart := rules("ae= be= ce= de= ea= eb= ec= ed=") // either no e, or nothing else
	if list, e := words.Count(apart, 5, 30); e != api.OK || list[30] != 1<<60+1 {
		t.Errorf("%v, %d", list, e)
	}
	wantNoCount(t, apart, 5, 31, api.ErrFull) // 2^62 + 1
}

// P5.4: sizes that are known; infinitely many strings, also where the rules have other letters.
func TestSizeKnown(t *testing.T) {
	known := []struct {
		system        string
		letters, want int
	}{
		{"a=", 1, 1}, {"aa=", 1, 2}, {"a= b=", 2, 1}, {"b= a= ba= ab=", 2, 1}, {"aa= ab= ba= bb=", 2, 3}, {"aa=a ba=ab bb=b", 2, 4},
		{"aaa= bb= ba=ab", 2, 6}, {"b=a aa=", 2, 2}, {"aa= bb= aba=bab", 2, 6}, {"aa= bb= abab=", 2, 8},
		{"", 1, 0}, {"", 8, 0}, {"aa=", 2, 0}, {"ba=ab", 2, 0}, {"b=", 1, 0}, {"aa= cc=", 3, 0}, {"aa= bb=", 2, 0}, {"aa= bb= cc=", 2, 0}, {"aa= bb= ab= c=", 3, 4},
		{"a= b= c= d= e= f= g=", 8, 0}, {"a= b= c= d= e= f= g= h=", 8, 1}, {"a= b= c= d= e= f= g= hhh=", 8, 3},
		{"aaa= abab= babab= bb=", 2, 0}, {"aaa= aab= bb= abab=", 2, 12},
	}
	for _, c := range known {
		system := rules(c.system)
		for i, r := range system {
			system[i] = greaterToLesser(r.Left, r.Right)
		}
		if c.want == 0 {
			wantNoSize(t, system, c.letters, api.ErrNone)
		} else {
			wantSize(t, system, c.letters, c.want)
		}
	}
	system := descents(8)
	for i := range 8 {
		system = append(system, api.Rule{Left: strings.Repeat("abcdefgh"[i:i+1], api.MaxSide)})
	}
	wantSize(t, system, 8, 110075314176) // 24^8
	wantNoSize(t, system[:35], 8, api.ErrNone)
}

// layers returns rules for which a normal string has a part of a and e, then one of b and e, and so on. A part begins with fewer than 24 of its letter, and has, after each e, fewer of it than before, at most as many as it is said: so there are 24 * 2^n such parts. At the end there may be one more e.
func layers(most ...int) []api.Rule {
	list := rules("ee=")
	add := func(left string) { list = append(list, api.Rule{Left: left}) }
	for i, n := range most {
		x := "abcd"[i : i+1]
		add(strings.Repeat(x, api.MaxSide))
		add("e" + strings.Repeat(x, n+1))
		for k := 1; k <= n; k++ {
			block := "e" + strings.Repeat(x, k)
			add(block + block)
		}
		for _, y := range strings.Split("abcd"[:i], "") {
			add(x + y)
			add(x + "e" + y)
		}
	}
	return list
}

// P5.4: the greatest sizes, and a greater one that is finite.
func TestSizeLimit(t *testing.T) {
	wantNoSize(t, layers(3), 5, api.ErrNone)
	system := append(layers(3), rules("b= c= d=")...)
	wantSize(t, system, 5, 2*24<<3)
	for _, n := range []int{1, 5, 8, 9} {
		wantSize(t, layers(11, 11, 11, n), 5, 2*24*24*24*24<<(33+n))
	}
	if n := len(layers(11, 11, 11, 10)); n != api.MaxRules {
		t.Fatalf("%d rules", n)
	}
	wantNoSize(t, layers(11, 11, 11, 10), 5, api.ErrNone) // 81 * 2^56
	wantNoSize(t, layers(11, 11, 11, 10)[1:], 5, api.ErrNone)
}

// P5.4: what is not a system, or not a number of letters or a length.
func TestCountErrors(t *testing.T) {
	for _, list := range notSystems() {
		wantNoCount(t, list, 2, 3, api.ErrArg)
		wantNoCount(t, list, 8, 40, api.ErrArg)
		wantNoSize(t, list, 2, api.ErrArg)
	}
	for _, letters := range []int{0, -1, 9, 26, math.MinInt, math.MaxInt} {
		wantNoCount(t, nil, letters, 3, api.ErrArg)
		wantNoCount(t, rules("aa="), letters, 40, api.ErrArg)
		wantNoSize(t, nil, letters, api.ErrArg)
		wantNoSize(t, rules("aa= bb="), letters, api.ErrArg)
	}
	for _, n := range []int{-1, 41, math.MinInt, math.MaxInt} {
		wantNoCount(t, nil, 1, n, api.ErrArg)
		wantNoCount(t, nil, 8, n, api.ErrArg)
	}
}
