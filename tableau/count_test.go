package tableau_test

import (
	"math"
	"math/big"
	"math/rand"
	"slices"
	"testing"

	"olivette/api"
	"olivette/tableau"
)

// plainStandards returns all standard tableaux of the shape, in any order: each number is put where the rows stay a shape.
func plainStandards(shape []int) [][][]int {
	var list [][][]int
	rows := make([][]int, len(shape))
	var put func(int)
	put = func(x int) {
		if slices.Equal(shapeOf(rows), shape) {
			list = append(list, copied(rows))
			return
		}
		for i := range rows {
			if len(rows[i]) < shape[i] && (i == 0 || len(rows[i]) < len(rows[i-1])) {
				rows[i] = append(rows[i], x)
				put(x + 1)
				rows[i] = rows[i][:len(rows[i])-1]
			}
		}
	}
	put(1)
	return list
}

func rowOf(rows [][]int, x int) int {
	return slices.IndexFunc(rows, func(row []int) bool { return slices.Contains(row, x) })
}

// comesFirst is the definition of the order.
func comesFirst(a, b [][]int) bool {
	for x := len(slices.Concat(a...)); x > 0; x-- {
		if rowOf(a, x) != rowOf(b, x) {
			return rowOf(a, x) > rowOf(b, x)
		}
	}
	return false
}

// hookCount is the rule of the hooks: n! divided by the product of the hooks' lengths.
func hookCount(shape []int) *big.Int {
	count, n := big.NewInt(1), int64(0)
	for _, row := range shape {
		for range row {
			n++
			count.Mul(count, big.NewInt(n))
		}
	}
	for i, row := range shape {
		for j := range row {
			hook := row - j
			for _, lower := range shape[i+1:] {
				if lower > j {
					hook++
				}
			}
			count.Div(count, big.NewInt(int64(hook)))
		}
	}
	return count
}

func count(t *testing.T, shape []int) int {
	t.Helper()
	before := slices.Clone(shape)
	n, e := tableau.Count(shape)
	if e != api.OK || !slices.Equal(shape, before) {
		t.Fatalf("Count(%v) = %d, %d", before, n, e)
	}
	return n
}

func wantStandard(t *testing.T, shape []int, k int, want [][]int) {
	t.Helper()
	before := slices.Clone(shape)
	if rows, e := tableau.Standard(shape, k); e != api.OK || !equal(rows, want) || !slices.Equal(shape, before) {
		t.Errorf("Standard(%v, %d) = %v, %d; want %v", before, k, rows, e, want)
	}
}

func wantIndex(t *testing.T, rows [][]int, want int) {
	t.Helper()
	before := copied(rows)
	if k, e := tableau.Index(rows); e != api.OK || k != want || !equal(rows, before) {
		t.Errorf("Index(%v) = %d, %d; want %d", before, k, e, want)
	}
}

// P4.2: all standard tableaux of all small shapes, in their order.
func TestStandardAll(t *testing.T) {
	for n := range 9 {
		eachShape(n, n, func(shape []int) {
			list := plainStandards(shape)
			slices.SortFunc(list, func(a, b [][]int) int {
				if comesFirst(a, b) {
					return -1
				}
				return 1
			})
			if number := count(t, shape); number != len(list) {
				t.Errorf("Count(%v) = %d; want %d", shape, number, len(list))
			}
			for k, rows := range list {
				wantStandard(t, shape, k, rows)
				wantIndex(t, rows, k)
			}
			wantNoStandard(t, shape, len(list), api.ErrArg)
			wantNoStandard(t, shape, -1, api.ErrArg)
		})
	}
}

// P4.2: counts and places that are known.
func TestStandardKnown(t *testing.T) {
	known := []struct {
		shape []int
		count int
	}{
		{nil, 1}, {[]int{}, 1}, {[]int{1}, 1}, {[]int{2, 1}, 2}, {[]int{2, 2}, 2}, {[]int{3, 2, 1}, 16}, {[]int{4, 3, 2, 1}, 768}, {[]int{5, 4, 3, 2, 1}, 292864}, {[]int{6, 5, 4, 3, 2, 1}, 1100742656},
		{[]int{30}, 1}, {slices.Repeat([]int{1}, 30), 1}, {[]int{29, 1}, 29}, {[]int{15, 15}, 9694845}, {[]int{10, 10, 10}, 7646001090}, {slices.Repeat([]int{2}, 15), 9694845},
	}
	for _, c := range known {
		if n := count(t, c.shape); n != c.count {
			t.Errorf("Count(%v) = %d; want %d", c.shape, n, c.count)
		}
	}
	wantStandard(t, nil, 0, nil)
	wantStandard(t, []int{}, 0, nil)
	wantIndex(t, nil, 0)
	wantIndex(t, [][]int{}, 0)
	wantStandard(t, []int{2, 1}, 0, [][]int{{1, 2}, {3}})
	wantStandard(t, []int{2, 1}, 1, [][]int{{1, 3}, {2}})
	wantStandard(t, []int{30}, 0, [][]int{numbers(1, 30)})
	wantStandard(t, slices.Repeat([]int{1}, 30), 0, column(1, 30))
}

// P4.2: counts of large shapes, by the rule of the hooks; the first tableau is filled row by row, the last one column by column.
func TestStandardLarge(t *testing.T) {
	random := rand.New(rand.NewSource(2))
	shapes := [][]int{{10, 10, 10}, {6, 6, 6, 6, 6}, {5, 5, 5, 5, 5, 5}, {8, 6, 5, 4, 3, 2, 1, 1}, {15, 15}, slices.Repeat([]int{2}, 15), {7, 6, 5, 4, 3, 2, 1, 1, 1}}
	for n := 20; n <= api.MaxBoxes; n++ {
		eachShape(n, n, func(shape []int) {
			if random.Intn(150) == 0 {
				shapes = append(shapes, shape)
			}
		})
	}
	for _, shape := range shapes {
		number := count(t, shape)
		if want := hookCount(shape); !want.IsInt64() || int64(number) != want.Int64() {
			t.Errorf("Count(%v) = %d; want %d", shape, number, want)
		}
		first := make([][]int, len(shape))
		x := 0
		for i, n := range shape {
			first[i] = numbers(x+1, x+n)
			x += n
		}
		wantStandard(t, shape, 0, first)
		x = 0
		last := transposed(first)
		for j, column := range last {
			last[j] = numbers(x+1, x+len(column))
			x += len(column)
		}
		wantStandard(t, shape, number-1, transposed(last))
		wantNoStandard(t, shape, number, api.ErrArg)
		for range 5 {
			k := random.Intn(number)
			rows, e := tableau.Standard(shape, k)
			if e != api.OK || !slices.Equal(shapeOf(rows), shape) || !slices.Equal(sorted(rows), numbers(1, x)) {
				t.Errorf("Standard(%v, %d) = %v, %d", shape, k, rows, e)
			}
			wantIndex(t, rows, k)
			if k > 0 {
				before, _ := tableau.Standard(shape, k-1)
				if !comesFirst(before, rows) {
					t.Errorf("%v is before %v", before, rows)
				}
			}
		}
	}
}

func wantNoStandard(t *testing.T, shape []int, k int, want api.Errno) {
	t.Helper()
	if rows, e := tableau.Standard(shape, k); e != want || len(rows) > 0 {
		t.Errorf("Standard(%.100v, %d) = %v, %d; want %d", shape, k, rows, e, want)
	}
}

// P4.2: what is not a shape comes first, then that it is too large, then that there are not so many.
func TestCountErrors(t *testing.T) {
	ks := []int{0, -1, 1, 5, math.MaxInt, math.MinInt}
	for _, shape := range notShapes() {
		if n, e := tableau.Count(shape); e != api.ErrArg || n != 0 {
			t.Errorf("Count(%.100v) = %d, %d", shape, n, e)
		}
		for _, k := range ks {
			wantNoStandard(t, shape, k, api.ErrArg)
		}
	}
	for _, shape := range fullShapes() {
		if n, e := tableau.Count(shape); e != api.ErrFull || n != 0 {
			t.Errorf("Count(%.100v) = %d, %d", shape, n, e)
		}
		for _, k := range ks {
			wantNoStandard(t, shape, k, api.ErrFull)
		}
	}
	for _, shape := range [][]int{nil, {1}, {30}, slices.Repeat([]int{1}, 30)} {
		for _, k := range ks[1:] {
			wantNoStandard(t, shape, k, api.ErrArg)
		}
	}
}

// P4.2: what is not a standard tableau comes before that it is too large.
func TestIndexErrors(t *testing.T) {
	bad := slices.Concat(notTableaux(), notStandard(), [][][]int{{numbers(1, api.MaxWord+1)}, column(1, api.MaxWord+1), {numbers(1, 1000)}})
	for _, rows := range bad {
		if k, e := tableau.Index(rows); e != api.ErrArg || k != 0 {
			t.Errorf("Index(%.100v) = %d, %d", rows, k, e)
		}
	}
	for n := api.MaxBoxes + 1; n <= api.MaxWord; n++ {
		for _, rows := range [][][]int{{numbers(1, n)}, column(1, n), {numbers(1, n-1), {n}}} {
			if k, e := tableau.Index(rows); e != api.ErrFull || k != 0 {
				t.Errorf("Index(%v) = %d, %d", rows, k, e)
			}
		}
	}
	wantIndex(t, [][]int{numbers(1, 29), {30}}, 0)
	wantIndex(t, column(1, 30), 0)
}

// P4.2: the rows share no memory with each other, and results none with others.
func TestStandardMemory(t *testing.T) {
	shape := []int{3, 3, 1}
	rows, _ := tableau.Standard(shape, 7)
	before := copied(rows)
	for i := range rows {
		rows[i] = append(rows[i], 99)
	}
	for i, row := range before {
		if !slices.Equal(rows[i][:len(row)], row) {
			t.Errorf("%v, once %v", rows, before)
		}
		rows[i][0] = 98
	}
	wantStandard(t, shape, 7, before)
}
