package tests

import (
	"slices"
	"testing"
)

// fitsSquare reports whether a number can stand behind the given ones of a square of n, filled row by row.
func fitsSquare(n int, given []int64, z int64, symmetric bool) bool {
	x, y := len(given)/n, len(given)%n
	for i := range given {
		if given[i] == z && (i/n == x || i%n == y) {
			return false
		}
	}
	return !symmetric || y >= x || given[y*n+x] == z
}

// latinSquares returns all squares of n, or all commutative ones, row by row in order.
func latinSquares(n int, symmetric bool) [][][]int64 {
	var list [][][]int64
	var fill func(given []int64)
	fill = func(given []int64) {
		if len(given) == n*n {
			var rows [][]int64
			for x := range n {
				rows = append(rows, slices.Clone(given[x*n:x*n+n]))
			}
			list = append(list, rows)
			return
		}
		for z := range int64(n) {
			if fitsSquare(n, given, z, symmetric) {
				fill(append(slices.Clone(given), z))
			}
		}
	}
	fill(nil)
	return list
}

// ruledSquare returns the square of n with the number (i x + k y + c) modulo n at x, y.
func ruledSquare(n, i, k, c int64) [][]int64 {
	var rows [][]int64
	for x := range n {
		var row []int64
		for y := range n {
			row = append(row, (i*x+k*y+c)%n)
		}
		rows = append(rows, row)
	}
	return rows
}

// sampleSquares returns all squares of 2 to 4, all commutative ones of 5, and some others of 5.
func sampleSquares() [][][]int64 {
	list := latinSquares(5, true)
	for n := 2; n <= 4; n++ {
		list = append(list, latinSquares(n, false)...)
	}
	for i := int64(1); i < 5; i++ {
		for k := int64(1); k < 5; k++ {
			for c := range int64(5) {
				// Those with i = k are commutative, and in the list already.
				if i != k {
					list = append(list, ruledSquare(5, i, k, c))
				}
			}
		}
	}
	return list
}

// plainIsSquare counts, for rows of any kind, how often each number stands in each line.
func plainIsSquare(rows [][]int64) bool {
	n := len(rows)
	if n < 2 || n > 5 {
		return false
	}
	var inRow, inColumn [5][5]int
	for x, row := range rows {
		if len(row) != n {
			return false
		}
		for y, z := range row {
			if z < 0 || z >= int64(n) {
				return false
			}
			inRow[x][z]++
			inColumn[y][z]++
		}
	}
	for i := range n {
		for z := range n {
			if inRow[i][z] != 1 || inColumn[i][z] != 1 {
				return false
			}
		}
	}
	return true
}

// plainKinds tells whether a square is commutative, idempotent, and half idempotent.
func plainKinds(rows [][]int64) [3]bool {
	n := int64(len(rows))
	commutative, idempotent, half := true, true, n%2 == 0
	for x := range n {
		for y := range n {
			commutative = commutative && rows[x][y] == rows[y][x]
		}
		idempotent = idempotent && rows[x][x] == x
	}
	for x := range n / 2 {
		half = half && rows[x][x] == x && rows[n/2+x][n/2+x] == x
	}
	return [3]bool{commutative, idempotent, half}
}

// noSquares returns rows that are no square, with the reasons.
func noSquares() map[string][][]int64 {
	six := ruledSquare(6, 1, 1, 0)
	with := func(n int64, x, y int, z int64) [][]int64 {
		rows := ruledSquare(n, 1, 1, 0)
		rows[x][y] = z
		return rows
	}
	return map[string][][]int64{
		"nil":                        nil,
		"no rows":                    {},
		"an empty row":               {{}},
		"a nil row":                  {nil},
		"two empty rows":             {{}, {}},
		"five empty rows":            {{}, {}, {}, {}, {}},
		"square of 1":                {{0}},
		"square of 6":                six,
		"square of 7":                ruledSquare(7, 1, 1, 0),
		"square of 100":              ruledSquare(100, 1, 1, 0),
		"one row of two":             {{0, 1}},
		"two rows of one":            {{0}, {1}},
		"two rows of three":          {{0, 1, 2}, {1, 2, 0}},
		"three rows of two":          {{0, 1}, {1, 0}, {0, 1}},
		"five rows of six":           six[:5],
		"six rows of five":           append(ruledSquare(5, 1, 1, 0), []int64{0, 1, 2, 3, 4}),
		"first row too short":        {{0, 1}, {1, 2, 0}, {2, 0, 1}},
		"last row too short":         {{0, 1, 2}, {1, 2, 0}, {2, 0}},
		"first row too long":         {{0, 1, 2, 0}, {1, 2, 0}, {2, 0, 1}},
		"last row too long":          {{0, 1, 2}, {1, 2, 0}, {2, 0, 1, 2}},
		"a row is empty":             {{0, 1, 2}, {}, {2, 0, 1}},
		"a row is nil":               {{0, 1, 2}, {1, 2, 0}, nil},
		"a row of one":               {{0, 1}, {1}},
		"numbers from 1 on":          {{1, 2}, {2, 1}},
		"numbers from 1 on, of 3":    {{1, 3, 2}, {3, 2, 1}, {2, 1, 3}},
		"equal rows":                 {{0, 1}, {0, 1}},
		"equal columns":              {{0, 0}, {1, 1}},
		"equal rows of 3":            {{0, 1, 2}, {0, 1, 2}, {0, 1, 2}},
		"equal columns of 3":         {{0, 0, 0}, {1, 1, 1}, {2, 2, 2}},
		"all numbers equal":          {{0, 0}, {0, 0}},
		"a column with a number two": {{0, 1, 2}, {1, 2, 0}, {2, 1, 0}},
		"number n":                   with(3, 0, 0, 3),
		"number 5 of 5":              with(5, 4, 4, 5),
		"negative number":            with(3, 1, 1, -1),
		"minus the number":           with(4, 0, 1, -1),
		"most number":                with(2, 1, 1, mostInt),
		"least number":               with(2, 0, 0, leastInt),
		"2 to the 32nd":              with(2, 0, 0, 1<<32),
		"2 to the 32nd and 1":        with(2, 0, 1, 1<<32+1),
	}
}

// guardedRows is a copy of rows with known values in the spare capacity of the list and of each row.
type guardedRows struct {
	list  [][]int64
	rows  []guarded[int64]
	spare []guarded[int64]
}

func guardRows(rows [][]int64) guardedRows {
	var g guardedRows
	var all [][]int64
	for _, row := range rows {
		g.rows = append(g.rows, guard(row, -7))
		all = append(all, g.rows[len(g.rows)-1].list)
	}
	for i := range int64(4) {
		g.spare = append(g.spare, guard([]int64{-20 - i, -30 - i}, -8))
		all = append(all, g.spare[i].list)
	}
	g.list = all[:len(rows)]
	return g
}

func (g guardedRows) check(t *testing.T, what string) {
	t.Helper()
	now := g.list[:len(g.rows)+len(g.spare)]
	for i, want := range slices.Concat(g.rows, g.spare) {
		want.check(t, what)
		if !slices.Equal(now[i], want.list) {
			t.Errorf("%s: row %d of the argument is now %v, not %v", what, i, now[i], want.list)
		}
	}
}

// checkOwnMemory overwrites the lists of a result, one after the other: no other may change.
func checkOwnMemory(t *testing.T, what string, lists [][]int64) {
	t.Helper()
	var before [][]int64
	for _, list := range lists {
		before = append(before, slices.Clone(list))
	}
	for i := range lists {
		spoil(lists[i], -9)
		for k := i + 1; k < len(lists); k++ {
			if !slices.Equal(lists[k], before[k]) {
				t.Errorf("%s: lists %d and %d share memory", what, i, k)
			}
		}
	}
}

func sameRows(a, b [][]int64) bool {
	return slices.EqualFunc(a, b, slices.Equal)
}
