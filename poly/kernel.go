package poly

import "slices"

// kernel returns a basis of the columns that the square matrix takes to 0, each as a polynomial.
func kernel(p int, matrix [][]int) [][]int {
	rows, pivots := reduced(p, matrix)
	var basis [][]int
	for j := range len(matrix) {
		if pivots[j] >= 0 {
			continue
		}
		v := make([]int, len(matrix))
		v[j] = 1
		for i, row := range pivots {
			if row >= 0 {
				v[i] = (p - rows[row][j]) % p
			}
		}
		basis = append(basis, trim(v))
	}
	return basis
}

// reduced returns the matrix after elimination, and for each column the row that has the only number other than 0 there, a 1; -1 if there is none.
func reduced(p int, matrix [][]int) ([][]int, []int) {
	rows := copyRows(matrix)
	pivots := slices.Repeat([]int{-1}, len(rows))
	done := 0
	for j := range len(rows) {
		i := done
		for i < len(rows) && rows[i][j] == 0 {
			i++
		}
		if i == len(rows) {
			continue
		}
		rows[i], rows[done] = rows[done], rows[i]
		clearColumn(p, rows, done, j)
		pivots[j] = done
		done++
	}
	return rows, pivots
}

// clearColumn makes the number of the row in column j to 1, and those of the other rows to 0.
func clearColumn(p int, rows [][]int, row, j int) {
	rows[row] = product(p, rows[row], []int{inverseOf(p, rows[row][j])})
	for i := range len(rows) {
		times := p - rows[i][j]
		if i != row && times < p {
			rows[i] = combine(rows[i], rows[row], 0, func(a, b int) int { return (a + times*b) % p })
		}
	}
}

func copyRows(matrix [][]int) [][]int {
	rows := make([][]int, len(matrix))
	for i := range len(rows) {
		rows[i] = make([]int, len(matrix[i]))
		copy(rows[i], matrix[i])
	}
	return rows
}
