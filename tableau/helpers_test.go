package tableau_test

import (
	"math"
	"math/rand"
	"slices"
	"testing"

	"olivette/api"
	"olivette/tableau"
)

// notWords are lists that are not words.
func notWords() [][]int {
	tooLong := make([]int, api.MaxWord+1)
	return [][]int{{-1}, {api.MaxLetter + 1}, {1, 2, -1}, {-1, 2, 3}, {0, 1001, 0}, {math.MaxInt}, {math.MinInt, 1}, tooLong, make([]int, 1000000)}
}

// notShapes are lists that are not shapes; some have more boxes than can be counted.
func notShapes() [][]int {
	long := slices.Repeat([]int{1}, 1000000)
	long[999999] = 2
	return [][]int{{0}, {-1}, {1, 0}, {1, 2}, {2, 1, 2}, {3, 3, 0}, {2, -1}, {math.MinInt}, {31, 32}, {30, 30, 0}, {math.MaxInt, math.MaxInt, 0}, {math.MaxInt - 1, math.MaxInt}, long}
}

// fullShapes are shapes that have more boxes than can be counted.
func fullShapes() [][]int {
	return [][]int{{31}, slices.Repeat([]int{1}, 31), {30, 1}, {16, 15}, {6, 6, 6, 6, 6, 1}, {60}, {61}, {api.MaxNumber}, {256}, {256, 256}, {math.MaxInt}, {math.MaxInt, 1}, {math.MaxInt, math.MaxInt}, slices.Repeat([]int{math.MaxInt}, 5), {1 << 62, 1 << 62, 1 << 62, 1 << 62}, slices.Repeat([]int{1}, 1000000)}
}

// notTableaux are lists of rows that are not tableaux.
func notTableaux() [][][]int {
	long := slices.Repeat([]int{1}, api.MaxWord)
	return [][][]int{
		{{}}, {nil}, {{1}, {}}, {{}, {1}}, {{1}, {2, 3}}, {{1, 2}, nil, {3}}, {{1, 2}, {3}, {4, 5}},
		{{2, 1}}, {{1, 3, 2}}, {{1, 2}, {4, 3}}, {{1}, {1}}, {{2}, {1}}, {{1, 3}, {2, 3}}, {{1, 2}, {3, 2}}, {{1}, {3}, {2}}, {{1, 1}, {2, 2}, {3, 2}},
		{{-1}}, {{-1, 1}}, {{api.MaxLetter + 1}}, {{1, 2, 1001}}, {{1}, {1001}}, {{math.MinInt}, {math.MaxInt}},
		{append(long, 1)}, {long, {2}}, {make([]int, 100000)}, make([][]int, 100000), column(0, api.MaxWord+1), column(0, 1000),
	}
}

// notStandard are tableaux that are not standard.
func notStandard() [][][]int {
	twice := numbers(1, api.MaxWord)
	twice[59] = 59
	return [][][]int{
		{{0}}, {{2}}, {{1, 1}}, {{0, 1}}, {{1, 3}}, {{2, 3}}, {{1}, {3}}, {{0}, {1}}, {{1, 2}, {2}}, {{1, 2}, {4}}, {{1, 1}, {2}}, {{1, 3}, {3}}, {{1000}},
		{{0, 1, 2}, {3, 4}}, {{1, 2, 4}, {3, 6}}, {numbers(2, api.MaxWord+1)}, {numbers(0, api.MaxWord-1)}, column(2, api.MaxWord), {twice},
	}
}

// numbers returns those from first to last.
func numbers(first, last int) []int {
	var list []int
	for x := first; x <= last; x++ {
		list = append(list, x)
	}
	return list
}

// column returns n rows of one number each, from first on.
func column(first, n int) [][]int {
	var rows [][]int
	for i := range n {
		rows = append(rows, []int{first + i})
	}
	return rows
}

// eachWord calls use with all words of that length whose numbers are less than letters.
func eachWord(length, letters int, use func([]int)) {
	word := make([]int, length)
	var fill func(int)
	fill = func(i int) {
		if i == length {
			use(slices.Clone(word))
			return
		}
		for x := range letters {
			word[i] = x
			fill(i + 1)
		}
	}
	fill(0)
}

// eachPermutation calls use with all orders of the numbers from 1 to n.
func eachPermutation(n int, use func([]int)) {
	list := numbers(1, n)
	var fill func(int)
	fill = func(i int) {
		if i == n {
			use(slices.Clone(list))
			return
		}
		for j := i; j < n; j++ {
			list[i], list[j] = list[j], list[i]
			fill(i + 1)
			list[i], list[j] = list[j], list[i]
		}
	}
	fill(0)
}

func randomWord(random *rand.Rand, length, letters int) []int {
	word := make([]int, length)
	for i := range word {
		word[i] = random.Intn(letters)
	}
	return word
}

// longWords returns words up to the limits, of several kinds.
func longWords(random *rand.Rand) [][]int {
	up, down := make([]int, api.MaxWord), make([]int, api.MaxWord)
	var waves, blocks []int
	for i := range api.MaxWord {
		up[i], down[i] = i*api.MaxLetter/(api.MaxWord-1), (api.MaxWord-1-i)*api.MaxLetter/(api.MaxWord-1)
		waves = append(waves, i%2*api.MaxLetter+(1-i%2*2)*i)
		blocks = append(blocks, 100*(i/8)+8-i%8)
	}
	list := [][]int{up, down, waves, blocks, make([]int, api.MaxWord), slices.Repeat([]int{api.MaxLetter}, api.MaxWord), slices.Repeat([]int{2, 1, 0}, 20), slices.Repeat([]int{0, 1, 2}, 20)}
	for range 150 {
		letters := []int{2, 3, 5, 10, 30, api.MaxLetter + 1}[random.Intn(6)]
		list = append(list, randomWord(random, random.Intn(api.MaxWord+1), letters))
	}
	return list
}

// eachShape calls use with all shapes of n boxes whose rows have at most that many.
func eachShape(n, most int, use func([]int)) {
	var grow func([]int, int, int)
	grow = func(shape []int, left, most int) {
		if left == 0 {
			use(slices.Clone(shape))
		}
		for row := min(left, most); row > 0; row-- {
			grow(append(shape, row), left-row, row)
		}
	}
	grow(nil, n, most)
}

func shapeOf(rows [][]int) []int {
	var shape []int
	for _, row := range rows {
		shape = append(shape, len(row))
	}
	return shape
}

func copied(rows [][]int) [][]int {
	var list [][]int
	for _, row := range rows {
		list = append(list, slices.Clone(row))
	}
	return list
}

func equal(a, b [][]int) bool {
	return slices.EqualFunc(a, b, slices.Equal)
}

// transposed returns the rows' columns.
func transposed(rows [][]int) [][]int {
	var columns [][]int
	for _, row := range rows {
		for j, x := range row {
			if j == len(columns) {
				columns = append(columns, nil)
			}
			columns[j] = append(columns[j], x)
		}
	}
	return columns
}

// pair returns the pair of the word.
func pair(t *testing.T, word []int) ([][]int, [][]int) {
	t.Helper()
	before := slices.Clone(word)
	p, q, e := tableau.Insert(word)
	if e != api.OK || !slices.Equal(word, before) {
		t.Fatalf("Insert(%v) = %v, %v, %d", before, p, q, e)
	}
	return p, q
}

func wantWord(t *testing.T, p, q [][]int, want []int) {
	t.Helper()
	p2, q2 := copied(p), copied(q)
	if word, e := tableau.Word(p, q); e != api.OK || !slices.Equal(word, want) || !equal(p, p2) || !equal(q, q2) {
		t.Errorf("Word(%v, %v) = %v, %d; want %v", p2, q2, word, e, want)
	}
}

func evacuate(t *testing.T, rows [][]int) [][]int {
	t.Helper()
	before := copied(rows)
	out, e := tableau.Evacuate(rows)
	if e != api.OK || !equal(rows, before) {
		t.Fatalf("Evacuate(%v) = %v, %d", before, out, e)
	}
	return out
}

// mustNotPanic calls all functions with the arguments.
func mustNotPanic(list []int, rows [][]int, k int) {
	tableau.Insert(list)
	tableau.Word(rows, rows)
	tableau.Count(list)
	tableau.Standard(list, k)
	tableau.Index(rows)
	tableau.Family(list, k)
	tableau.Check(list, k, api.Family{Up: rows, Down: rows})
	tableau.Evacuate(rows)
}
