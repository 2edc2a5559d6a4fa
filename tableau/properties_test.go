package tableau_test

import (
	"math"
	"math/rand"
	"slices"
	"testing"

	"olivette/api"
	"olivette/tableau"
)

// P4.4: evacuations that are known.
func TestEvacuateKnown(t *testing.T) {
	known := []struct{ rows, want [][]int }{
		{nil, nil},
		{[][]int{}, nil},
		{[][]int{{1}}, [][]int{{1}}},
		{[][]int{{1, 2}, {3}}, [][]int{{1, 3}, {2}}},
		{[][]int{{1, 3}, {2}}, [][]int{{1, 2}, {3}}},
		{[][]int{{1, 2}, {3, 4}}, [][]int{{1, 2}, {3, 4}}},
		{[][]int{{1, 2, 3}, {4}}, [][]int{{1, 3, 4}, {2}}},
		{[][]int{{1, 2, 4}, {3}}, [][]int{{1, 2, 4}, {3}}},
		{[][]int{{1, 2, 3}, {4, 5}}, [][]int{{1, 2, 5}, {3, 4}}},
		{[][]int{numbers(1, api.MaxWord)}, [][]int{numbers(1, api.MaxWord)}},
		{column(1, api.MaxWord), column(1, api.MaxWord)},
	}
	for _, c := range known {
		if out := evacuate(t, c.rows); !equal(out, c.want) {
			t.Errorf("Evacuate(%v) = %v; want %v", c.rows, out, c.want)
		}
	}
}

// slidOut returns what the tableau becomes by sliding: time and again the first box is emptied, what is to the right or below slides into it, and the box that gets free at the end receives the greatest number that is left.
func slidOut(rows [][]int) [][]int {
	work, out := copied(rows), copied(rows)
	for x := len(slices.Concat(rows...)); x > 0; x-- {
		i, j := 0, 0
		for {
			right, below := math.MaxInt, math.MaxInt
			if j+1 < len(work[i]) {
				right = work[i][j+1]
			}
			if i+1 < len(work) && j < len(work[i+1]) {
				below = work[i+1][j]
			}
			if right == math.MaxInt && below == math.MaxInt {
				break
			}
			if right < below {
				work[i][j] = right
				j++
			} else {
				work[i][j] = below
				i++
			}
		}
		work[i] = work[i][:j]
		out[i][j] = x
	}
	return out
}

// P4.4 and P4.5: evacuating is sliding out, and doing it twice changes nothing.
func TestEvacuateAll(t *testing.T) {
	want := func(rows [][]int) {
		out := evacuate(t, rows)
		if !equal(out, slidOut(rows)) {
			t.Errorf("Evacuate(%v) = %v; want %v", rows, out, slidOut(rows))
		}
		if twice := evacuate(t, out); !equal(twice, rows) {
			t.Errorf("twice evacuated, %v is %v", rows, twice)
		}
	}
	for n := range 8 {
		eachShape(n, n, func(shape []int) {
			for _, rows := range plainStandards(shape) {
				want(rows)
			}
		})
	}
	for _, word := range longWords(rand.New(rand.NewSource(5))) {
		_, q := pair(t, word)
		want(q)
	}
}

// P4.4: what is not a standard tableau is not evacuated.
func TestEvacuateErrors(t *testing.T) {
	for _, rows := range slices.Concat(notTableaux(), notStandard(), [][][]int{{numbers(1, api.MaxWord+1)}, column(1, 1000)}) {
		if out, e := tableau.Evacuate(rows); e != api.ErrArg || len(out) > 0 {
			t.Errorf("Evacuate(%.100v) = %v, %d", rows, out, e)
		}
	}
}

// longestChain returns how many positions the longest ascending chain has.
func longestChain(word []int) int {
	longest := make([]int, len(word)+1)
	for i, x := range word {
		longest[i] = 1
		for j := range i {
			if word[j] <= x {
				longest[i] = max(longest[i], longest[j]+1)
			}
		}
	}
	return slices.Max(longest)
}

// P4.5: the rows have as many boxes as the chains have positions.
func TestSchenstedGreene(t *testing.T) {
	want := func(word []int) {
		p, _ := pair(t, word)
		rows := shapeOf(p)
		if first := append(rows, 0)[0]; first != longestChain(word) {
			t.Errorf("the longest chain of %v has %d positions; the rows are %v", word, longestChain(word), rows)
		}
		boxes := 0
		for k := 1; k <= min(len(rows)+1, api.MaxWord); k++ {
			if k <= len(rows) {
				boxes += rows[k-1]
			}
			if f := family(t, word, k); len(slices.Concat(f.Up...)) != boxes {
				t.Errorf("Family(%v, %d) = %v; the rows are %v", word, k, f, rows)
			}
		}
	}
	for length := range 7 {
		eachWord(length, 3, want)
	}
	eachPermutation(6, want)
	for _, word := range longWords(rand.New(rand.NewSource(6))) {
		want(word)
	}
}

// P4.5: no k disjoint ascending chains have more positions than the first k rows have boxes.
func TestNoLargerFamily(t *testing.T) {
	want := func(word []int) {
		p, _ := pair(t, word)
		boxes := 0
		for i, row := range p {
			boxes += len(row)
			if most := mostIn(word, i+1); most != boxes {
				t.Errorf("%d chains of %v have %d positions; the tableau is %v", i+1, word, most, p)
			}
		}
	}
	eachWord(5, 4, want)
	eachPermutation(6, want)
}

// P4.5: the tableaux of the inverse permutation are those of the permutation, exchanged.
func TestInverse(t *testing.T) {
	want := func(word []int) {
		inverse := make([]int, len(word))
		for i, x := range word {
			inverse[x-1] = i + 1
		}
		p, q := pair(t, word)
		if p2, q2 := pair(t, inverse); !equal(p, q2) || !equal(q, p2) {
			t.Errorf("%v: %v, %v; but %v: %v, %v", word, p, q, inverse, p2, q2)
		}
	}
	for n := range 8 {
		eachPermutation(n, want)
	}
	random := rand.New(rand.NewSource(7))
	for range 200 {
		word := random.Perm(random.Intn(api.MaxWord + 1))
		for i := range word {
			word[i]++
		}
		want(word)
	}
}

// P4.5: the squares of the counts add up to the number of permutations.
func TestSquares(t *testing.T) {
	permutations := 1
	for n := range 21 {
		permutations *= max(n, 1)
		sum := 0
		eachShape(n, n, func(shape []int) {
			number := count(t, shape)
			sum += number * number
		})
		if sum != permutations {
			t.Errorf("%d boxes: the squares add up to %d; want %d", n, sum, permutations)
		}
	}
}

// P1: all functions take all arguments.
func TestAllArguments(t *testing.T) {
	lists := slices.Concat(notWords(), notShapes(), fullShapes(), [][]int{nil, {}, {0}, {1}, {2, 1}, {1000}, {1000, 1000}, {30}})
	tables := slices.Concat(notTableaux(), notStandard(), [][][]int{nil, {}, {{1}}, {{math.MaxInt}}, {{math.MinInt}, {0}}, {{math.MaxInt, math.MinInt}, nil}})
	for _, k := range []int{0, 1, -1, 60, 61, math.MaxInt, math.MinInt} {
		for _, list := range lists {
			for _, rows := range [][][]int{nil, {list}, {list, list}} {
				mustNotPanic(list, rows, k)
			}
		}
		for _, rows := range tables {
			mustNotPanic([]int{2, 1}, rows, k)
		}
	}
}

// P2: results depend on the arguments only, whatever was called before.
func TestAgain(t *testing.T) {
	random := rand.New(rand.NewSource(8))
	for range 100 {
		word, k := randomWord(random, random.Intn(30), 20), 1+random.Intn(6)
		p, q := pair(t, word)
		f := family(t, word, k)
		shape := shapeOf(q)
		number := count(t, shape)
		index, _ := tableau.Index(q)
		out := evacuate(t, q)
		other := family(t, randomWord(random, 40, 9), 2)
		evacuate(t, out)
		p2, q2 := pair(t, word)
		f2 := family(t, word, k)
		if !equal(p, p2) || !equal(q, q2) || !equal(f.Up, f2.Up) || !equal(f.Down, f2.Down) {
			t.Errorf("%v: %v, %v, %v; then %v, %v, %v (after %v)", word, p, q, f, p2, q2, f2, other)
		}
		wantIndex(t, q, index)
		wantStandard(t, shape, index, q)
		if again := count(t, shape); again != number {
			t.Errorf("Count(%v) = %d, once %d", shape, again, number)
		}
		if again := evacuate(t, q); !equal(out, again) {
			t.Errorf("Evacuate(%v) = %v, once %v", q, again, out)
		}
	}
}
