package tableau_test

import (
	"math"
	"math/rand"
	"slices"
	"testing"

	"olivette/api"
	"olivette/tableau"
)

// isChain is the definition: positions of the word that ascend, with numbers each of which agrees with the one before.
func isChain(word, list []int, agree func(before, x int) bool) bool {
	for j, i := range list {
		if i < 0 || i >= len(word) {
			return false
		}
		if j > 0 && (list[j-1] >= i || !agree(word[list[j-1]], word[i])) {
			return false
		}
	}
	return len(list) > 0
}

// isRight is the definition of a right family.
func isRight(word []int, k int, f api.Family) bool {
	if len(f.Up) > k {
		return false
	}
	for _, list := range f.Up {
		if !isChain(word, list, func(before, x int) bool { return x >= before }) {
			return false
		}
	}
	for _, list := range f.Down {
		if !isChain(word, list, func(before, x int) bool { return x < before }) {
			return false
		}
	}
	inUp, inDown, free := 0, 0, 0
	for i := range word {
		ups, downs := times(f.Up, i), times(f.Down, i)
		if ups > 1 || downs > 1 {
			return false
		}
		inUp += ups
		inDown += downs
		free += 1 - downs
	}
	return inUp == k*len(f.Down)+free
}

// times returns how often i is in the lists.
func times(lists [][]int, i int) int {
	n := 0
	for _, list := range lists {
		for _, j := range list {
			if i == j {
				n++
			}
		}
	}
	return n
}

// family returns a family that is right by the definition and by Check.
func family(t *testing.T, word []int, k int) api.Family {
	t.Helper()
	before := slices.Clone(word)
	f, e := tableau.Family(word, k)
	if e != api.OK || !isRight(word, k, f) || !slices.Equal(word, before) {
		t.Fatalf("Family(%v, %d) = %v, %d", before, k, f, e)
	}
	wantCheck(t, word, k, f, api.OK)
	return f
}

func wantCheck(t *testing.T, word []int, k int, f api.Family, want api.Errno) {
	t.Helper()
	before, up, down := slices.Clone(word), copied(f.Up), copied(f.Down)
	if e := tableau.Check(word, k, f); e != want || !slices.Equal(word, before) || !equal(f.Up, up) || !equal(f.Down, down) {
		t.Errorf("Check(%.100v, %d, %.100v) = %d; want %d", before, k, f, e, want)
	}
}

// mostIn returns how many positions k ascending chains can have: as many as a part of the word in which no descending chain has more than k.
func mostIn(word []int, k int) int {
	most := 0
	for bits := range 1 << len(word) {
		longest, size := make([]int, len(word)), 0
		for i := range word {
			if bits>>i&1 == 0 {
				continue
			}
			size++
			longest[i] = 1
			for j := range i {
				if bits>>j&1 == 1 && word[j] > word[i] {
					longest[i] = max(longest[i], longest[j]+1)
				}
			}
		}
		if len(word) == 0 || slices.Max(longest) <= k {
			most = max(most, size)
		}
	}
	return most
}

// P4.3: families of all short words are right, and no other ones have more positions.
func TestFamilyAll(t *testing.T) {
	for length := range 7 {
		for k := 1; k <= length+1; k++ {
			eachWord(length, 4, func(word []int) {
				f := family(t, word, k)
				if n := len(slices.Concat(f.Up...)); n != mostIn(word, k) {
					t.Errorf("Family(%v, %d) = %v; want %d positions", word, k, f, mostIn(word, k))
				}
			})
		}
	}
	for k := 1; k <= 7; k++ {
		eachPermutation(7, func(word []int) { family(t, word, k) })
	}
}

// P4.3: families of long words are right, for all k.
func TestFamilyLong(t *testing.T) {
	for _, word := range longWords(rand.New(rand.NewSource(3))) {
		for k := 1; k <= api.MaxWord; k++ {
			family(t, word, k)
		}
	}
}

// P4.3: where there is only one right family, or what each one has is known.
func TestFamilyKnown(t *testing.T) {
	for _, word := range [][]int{nil, {}} {
		for _, k := range []int{1, 2, api.MaxWord} {
			if f := family(t, word, k); len(f.Up) > 0 || len(f.Down) > 0 {
				t.Errorf("Family(%v, %d) = %v", word, k, f)
			}
			wantCheck(t, word, k, api.Family{}, api.OK)
		}
	}
	if f := family(t, []int{2, 1, 4, 3}, 1); len(f.Up) != 1 || len(f.Up[0]) != 2 || !equal(f.Down, [][]int{{0, 1}, {2, 3}}) {
		t.Errorf("%v", f)
	}
	if f := family(t, numbers(1, api.MaxWord), 1); !equal(f.Up, [][]int{numbers(0, api.MaxWord-1)}) {
		t.Errorf("%v", f)
	}
	down := numbers(1, api.MaxWord)
	slices.Reverse(down)
	for k := 1; k < api.MaxWord; k++ {
		f := family(t, down, k)
		if len(f.Up) != k || len(slices.Concat(f.Up...)) != k || len(f.Down) != 1 || len(f.Down[0]) < k {
			t.Errorf("Family(%v, %d) = %v", down, k, f)
		}
	}
	if f := family(t, []int{2, 4, 7, 9, 5, 1, 3, 6, 8}, 2); len(slices.Concat(f.Up...)) != 8 || len(f.Up) != 2 {
		t.Errorf("%v", f) // 2 4 7 9 and 1 3 6 8, which have not the five of 2 4 5 6 8
	}
}

// P4.3: Check agrees with the definition for many small families.
func TestCheckAll(t *testing.T) {
	list := [][]int{{}}
	for i := -1; i < 4; i++ {
		list = append(list, []int{i})
		for j := -1; j < 4; j++ {
			list = append(list, []int{i, j})
		}
	}
	list = append(list, []int{0, 1, 2}, []int{0, 2, 1}, []int{0, 1, 1})
	sets := [][][]int{nil, {{0}, {1}, {2}}, {{0}, {1}, {2}, {}}, {{0}, {1}, {1}}}
	for _, a := range list {
		sets = append(sets, [][]int{a})
		for _, b := range list {
			sets = append(sets, [][]int{a, b})
		}
	}
	right := 0
	for _, word := range [][]int{nil, {5}, {1, 2}, {1, 1}, {2, 1}, {1, 2, 3}, {3, 2, 1}, {2, 3, 1}, {2, 1, 2}, {2, 2, 1}} {
		for k := 1; k <= 3; k++ {
			for _, up := range sets {
				for _, down := range sets {
					f := api.Family{Up: up, Down: down}
					want := api.ErrAnswer
					if isRight(word, k, f) {
						want = api.OK
						right++
					}
					if e := tableau.Check(word, k, f); e != want {
						t.Errorf("Check(%v, %d, %v) = %d; want %d", word, k, f, e, want)
					}
				}
			}
		}
	}
	if right < 100 {
		t.Errorf("only %d right families", right)
	}
}

// P4.3: long families with one change, and such with wrong numbers, are not right.
func TestCheckChanged(t *testing.T) {
	random := rand.New(rand.NewSource(4))
	wrong := []int{-1, math.MinInt, math.MaxInt, api.MaxWord, 1 << 32}
	for _, word := range longWords(random) {
		if len(word) < 2 {
			continue
		}
		k := 1 + random.Intn(5)
		good := family(t, word, k)
		for range 40 {
			f := api.Family{Up: copied(good.Up), Down: copied(good.Down)}
			part := &f.Up
			if random.Intn(2) == 0 && len(f.Down) > 0 {
				part = &f.Down
			}
			i := random.Intn(len(*part))
			list := (*part)[i]
			j := random.Intn(len(list))
			switch random.Intn(6) {
			case 0:
				list[j] = random.Intn(len(word))
			case 1:
				list[j] = wrong[random.Intn(len(wrong))]
			case 2:
				(*part)[i] = slices.Delete(list, j, j+1)
			case 3:
				(*part)[i] = slices.Insert(list, j, random.Intn(len(word)))
			case 4:
				*part = append(*part, list[:random.Intn(len(list)+1)])
			case 5:
				*part = slices.Delete(*part, i, i+1)
			}
			want := api.ErrAnswer
			if isRight(word, k, f) {
				want = api.OK
			}
			wantCheck(t, word, k, f, want)
		}
	}
}

// P4.3: errors that Check names.
func TestCheckKnown(t *testing.T) {
	word := []int{2, 1, 4, 3}
	down := [][]int{{0, 1}, {2, 3}}
	known := []struct {
		name string
		k    int
		f    api.Family
		want api.Errno
	}{
		{"right", 1, api.Family{Up: [][]int{{0, 2}}, Down: down}, api.OK},
		{"right too", 1, api.Family{Up: [][]int{{1, 3}}, Down: [][]int{{2, 3}, {0, 1}}}, api.OK},
		{"all positions", 2, api.Family{Up: [][]int{{1, 2}, {0, 3}}}, api.OK},
		{"all positions, and needless chains", 2, api.Family{Up: [][]int{{1, 2}, {0, 3}}, Down: down}, api.OK},
		{"all positions, too many chains to go with", 3, api.Family{Up: [][]int{{1, 2}, {0, 3}}, Down: down}, api.ErrAnswer},
		{"fewer chains than allowed", 60, api.Family{Up: [][]int{{1, 2}, {0, 3}}}, api.OK},
		{"nothing", 1, api.Family{}, api.ErrAnswer},
		{"no proof", 1, api.Family{Up: [][]int{{0, 2}}}, api.ErrAnswer},
		{"half a proof", 1, api.Family{Up: [][]int{{0, 2}}, Down: down[:1]}, api.ErrAnswer},
		{"too short", 1, api.Family{Up: [][]int{{0}}, Down: down}, api.ErrAnswer},
		{"too many", 1, api.Family{Up: [][]int{{0}, {2}}, Down: down}, api.ErrAnswer},
		{"an empty one in Up", 2, api.Family{Up: [][]int{{}, {0, 2}}, Down: down}, api.ErrAnswer},
		{"an empty one beside all", 3, api.Family{Up: [][]int{{1, 2}, {0, 3}, nil}}, api.ErrAnswer},
		{"an empty one in Down", 1, api.Family{Up: [][]int{{0, 2}}, Down: [][]int{{0, 1}, {2, 3}, {}}}, api.ErrAnswer},
		{"twice in Up", 2, api.Family{Up: [][]int{{0, 2}, {1, 2}}}, api.ErrAnswer},
		{"twice in Down", 1, api.Family{Up: [][]int{{0, 2}}, Down: [][]int{{0, 1}, {2, 3}, {3}}}, api.ErrAnswer},
		{"not in order", 1, api.Family{Up: [][]int{{2, 0}}, Down: down}, api.ErrAnswer},
		{"twice in a chain", 1, api.Family{Up: [][]int{{0, 0}}, Down: down}, api.ErrAnswer},
		{"not ascending", 1, api.Family{Up: [][]int{{2, 3}}, Down: down}, api.ErrAnswer},
		{"not descending", 1, api.Family{Up: [][]int{{0, 2}}, Down: [][]int{{1, 2}, {0, 3}}}, api.ErrAnswer},
		{"not there", 1, api.Family{Up: [][]int{{0, 4}}, Down: down}, api.ErrAnswer},
		{"less than 0", 1, api.Family{Up: [][]int{{-1, 2}}, Down: down}, api.ErrAnswer},
		{"very many", 60, api.Family{Up: make([][]int, 1000000), Down: make([][]int, 1000000)}, api.ErrAnswer},
		{"very long", 60, api.Family{Up: [][]int{make([]int, 1000000)}, Down: [][]int{numbers(0, 100000)}}, api.ErrAnswer},
		{"very many in Down", 60, api.Family{Up: [][]int{{0}}, Down: slices.Repeat([][]int{{1}}, 100000)}, api.ErrAnswer},
	}
	for _, c := range known {
		if e := tableau.Check(word, c.k, c.f); e != c.want {
			t.Errorf("%s: %d", c.name, e)
		}
	}
	equalNumbers := []int{7, 7}
	wantCheck(t, equalNumbers, 1, api.Family{Up: [][]int{{0, 1}}}, api.OK)
	wantCheck(t, equalNumbers, 1, api.Family{Up: [][]int{{0}}, Down: [][]int{{0, 1}}}, api.ErrAnswer)
}

// P4.3: what is not a word, and numbers of chains that are out of range; Check finds these before what is wrong with the family.
func TestFamilyErrors(t *testing.T) {
	families := []api.Family{{}, {Up: [][]int{{}}}, {Up: [][]int{{-1}}, Down: [][]int{{5}}}}
	want := func(word []int, k int) {
		if f, e := tableau.Family(word, k); e != api.ErrArg || len(f.Up) > 0 || len(f.Down) > 0 {
			t.Errorf("Family(%.100v, %d) = %v, %d", word, k, f, e)
		}
		for _, f := range families {
			wantCheck(t, word, k, f, api.ErrArg)
		}
	}
	ks := []int{0, -1, api.MaxWord + 1, math.MaxInt, math.MinInt, 1 << 32, 1<<32 + 1}
	for _, k := range ks {
		for _, word := range [][]int{nil, {1}, {3, 1, 2}, make([]int, api.MaxWord)} {
			want(word, k)
		}
	}
	for _, word := range notWords() {
		for _, k := range append(ks, 1, 2, api.MaxWord) {
			want(word, k)
		}
	}
}

// P4.3: the lists of a family share no memory.
func TestFamilyMemory(t *testing.T) {
	word := []int{6, 3, 1, 5, 2, 4, 1, 0}
	f := family(t, word, 2)
	up, down := copied(f.Up), copied(f.Down)
	for _, lists := range [][][]int{f.Up, f.Down} {
		for i := range lists {
			lists[i] = append(lists[i], 99)
			lists[i][0] = 98
		}
	}
	for i := range f.Up {
		if !slices.Equal(f.Up[i][1:len(up[i])], up[i][1:]) {
			t.Errorf("%v, once %v", f.Up, up)
		}
	}
	for i := range f.Down {
		if !slices.Equal(f.Down[i][1:len(down[i])], down[i][1:]) {
			t.Errorf("%v, once %v", f.Down, down)
		}
	}
	if f := family(t, word, 2); !equal(f.Up, up) || !equal(f.Down, down) {
		t.Errorf("%v, once %v, %v", f, up, down)
	}
}
