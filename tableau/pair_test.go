package tableau_test

import (
	"math/rand"
	"slices"
	"testing"

	"olivette/api"
	"olivette/tableau"
)

// plainPair is the definition of the pair, step by step.
func plainPair(word []int) (p, q [][]int) {
	for k, x := range word {
		row := 0
		for {
			if row == len(p) {
				p, q = append(p, nil), append(q, nil)
			}
			place := 0
			for place < len(p[row]) && p[row][place] <= x {
				place++
			}
			if place == len(p[row]) {
				p[row], q[row] = append(p[row], x), append(q[row], k+1)
				break
			}
			old := p[row][place]
			p[row][place] = x
			x = old
			row++
		}
	}
	return p, q
}

// P4.1: pairs that are known.
func TestPairKnown(t *testing.T) {
	known := []struct {
		word []int
		p, q [][]int
	}{
		{nil, nil, nil},
		{[]int{}, nil, nil},
		{[]int{0}, [][]int{{0}}, [][]int{{1}}},
		{[]int{1000}, [][]int{{1000}}, [][]int{{1}}},
		{[]int{3, 1, 2}, [][]int{{1, 2}, {3}}, [][]int{{1, 3}, {2}}},
		{[]int{2, 3, 1}, [][]int{{1, 3}, {2}}, [][]int{{1, 2}, {3}}},
		{[]int{2, 2, 1}, [][]int{{1, 2}, {2}}, [][]int{{1, 2}, {3}}},
		{[]int{5, 5, 5}, [][]int{{5, 5, 5}}, [][]int{{1, 2, 3}}},
		{[]int{2, 1, 0}, [][]int{{0}, {1}, {2}}, [][]int{{1}, {2}, {3}}},
		{[]int{5, 2, 3, 1, 4}, [][]int{{1, 3, 4}, {2}, {5}}, [][]int{{1, 3, 5}, {2}, {4}}},
		{[]int{1, 3, 2, 2, 1}, [][]int{{1, 1, 2}, {2}, {3}}, [][]int{{1, 2, 4}, {3}, {5}}},
		{[]int{4, 2, 7, 3, 6, 1, 5}, [][]int{{1, 3, 5}, {2, 6}, {4, 7}}, [][]int{{1, 3, 5}, {2, 4}, {6, 7}}},
	}
	for _, c := range known {
		if p, q := pair(t, c.word); !equal(p, c.p) || !equal(q, c.q) {
			t.Errorf("Insert(%v) = %v, %v; want %v, %v", c.word, p, q, c.p, c.q)
		}
		wantWord(t, c.p, c.q, c.word)
	}
}

func wantPair(t *testing.T, word []int) {
	t.Helper()
	p, q := pair(t, word)
	if p2, q2 := plainPair(word); !equal(p, p2) || !equal(q, q2) {
		t.Errorf("Insert(%v) = %v, %v; want %v, %v", word, p, q, p2, q2)
	}
	wantWord(t, p, q, word)
}

// P4.1: all short words, and long ones; the word of a pair is the word.
func TestPairAll(t *testing.T) {
	for length := range 7 {
		eachWord(length, 4, func(word []int) { wantPair(t, word) })
	}
	eachPermutation(7, func(word []int) { wantPair(t, word) })
	for _, word := range longWords(rand.New(rand.NewSource(1))) {
		wantPair(t, word)
	}
}

// eachTableau calls use with all tableaux of the shape whose numbers are less than letters.
func eachTableau(shape []int, letters int, use func([][]int)) {
	var boxes [][2]int
	rows := make([][]int, len(shape))
	for i, n := range shape {
		rows[i] = make([]int, n)
		for j := range n {
			boxes = append(boxes, [2]int{i, j})
		}
	}
	var fill func(int)
	fill = func(at int) {
		if at == len(boxes) {
			use(copied(rows))
			return
		}
		i, j := boxes[at][0], boxes[at][1]
		least := 0
		if j > 0 {
			least = rows[i][j-1]
		}
		if i > 0 {
			least = max(least, rows[i-1][j]+1)
		}
		for x := least; x < letters; x++ {
			rows[i][j] = x
			fill(at + 1)
		}
	}
	fill(0)
}

// P4.1: of all small tableaux p and q, Word returns a word whose pair they are.
func TestWordAll(t *testing.T) {
	for n := range 6 {
		eachShape(n, n, func(shape []int) {
			var standard [][][]int
			eachTableau(shape, n+1, func(q [][]int) {
				if slices.Equal(sorted(q), numbers(1, n)) {
					standard = append(standard, q)
				}
			})
			eachTableau(shape, 4, func(p [][]int) {
				for _, q := range standard {
					word, e := tableau.Word(p, q)
					if p2, q2 := plainPair(word); e != api.OK || !equal(p, p2) || !equal(q, q2) {
						t.Errorf("Word(%v, %v) = %v, %d", p, q, word, e)
					}
				}
			})
		})
	}
}

func sorted(rows [][]int) []int {
	list := slices.Concat(rows...)
	slices.Sort(list)
	return list
}

// P4.1: what is not a word has no pair.
func TestInsertErrors(t *testing.T) {
	for _, word := range notWords() {
		if p, q, e := tableau.Insert(word); e != api.ErrArg || len(p) > 0 || len(q) > 0 {
			t.Errorf("Insert(%.100v) = %v, %v, %d", word, p, q, e)
		}
	}
}

func wantNoWord(t *testing.T, p, q [][]int) {
	t.Helper()
	if word, e := tableau.Word(p, q); e != api.ErrArg || len(word) > 0 {
		t.Errorf("Word(%.100v, %.100v) = %v, %d", p, q, word, e)
	}
}

// P4.1: what is not a tableau, or not standard, and pairs of two shapes have no word.
func TestWordErrors(t *testing.T) {
	good := [][][]int{nil, {{1}}, {{1, 2}}, {{1}, {2}}, {{1, 3}, {2}}, {{1, 2, 3}}, {{1, 2}, {3, 4}}, {numbers(1, api.MaxWord)}, column(1, api.MaxWord)}
	for _, bad := range notTableaux() {
		wantNoWord(t, bad, bad)
		for _, rows := range good {
			wantNoWord(t, bad, rows)
			wantNoWord(t, rows, bad)
		}
	}
	for _, bad := range notStandard() {
		wantNoWord(t, bad, bad)
		for _, rows := range good {
			wantNoWord(t, rows, bad)
		}
	}
	for i, p := range good {
		for j, q := range good {
			if i != j {
				wantNoWord(t, p, q)
			}
		}
	}
}

// P4.1: the first tableau need not be standard, and may have all numbers of a word.
func TestWordNotStandard(t *testing.T) {
	full := [][]int{numbers(1, api.MaxWord)}
	for _, bad := range notStandard() {
		if len(bad) == 1 && len(bad[0]) == api.MaxWord {
			wantWord(t, bad, full, bad[0])
		}
	}
	wantWord(t, [][]int{slices.Repeat([]int{1000}, api.MaxWord)}, full, slices.Repeat([]int{1000}, api.MaxWord))
	wantWord(t, [][]int{{0, 0}, {1000}}, [][]int{{1, 3}, {2}}, []int{1000, 0, 0})
}

// P4.1: results share no memory.
func TestPairMemory(t *testing.T) {
	word := []int{4, 2, 7, 3, 6, 1, 5}
	p, q := pair(t, word)
	p2, q2 := copied(p), copied(q)
	back, _ := tableau.Word(p, q)
	for i := range p {
		p[i] = append(p[i], 99)
		p[i][0] = 98
	}
	if !equal(q, q2) || !slices.Equal(back, word) {
		t.Errorf("%v, %v", q, back)
	}
	for i := range p {
		if len(p[i]) != len(p2[i])+1 || !slices.Equal(p[i][1:len(p2[i])], p2[i][1:]) {
			t.Errorf("%v, once %v", p, p2)
		}
	}
	if p, q := pair(t, word); !equal(p, p2) || !equal(q, q2) {
		t.Errorf("Insert(%v) = %v, %v; want %v, %v", word, p, q, p2, q2)
	}
}
