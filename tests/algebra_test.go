package tests

import (
	"maps"
	"slices"
	"testing"

	"loop.example/g01355/impl"
)

// plainTable returns the products of the points of a full system, or those of its loop, by looking at all
// blocks.
func plainTable(x impl.System, loop bool) [][]int64 {
	v := x.Points
	table := make([][]int64, v)
	for a := range v {
		for b := range v {
			c := a
			if loop {
				c = v
			}
			for _, block := range x.Blocks {
				if a != b && has(block, a) && has(block, b) {
					c = block[0] + block[1] + block[2] - a - b
				}
			}
			table[a] = append(table[a], c)
		}
	}
	if loop {
		for a := range table {
			table[a] = append(table[a], int64(a))
		}
		table = append(table, identity(v+1))
	}
	return table
}

// plainAssociative counts the triples of a table of products that are associative.
func plainAssociative(table [][]int64) int64 {
	n := int64(0)
	for a, row := range table {
		for b, ab := range row {
			for c, bc := range table[b] {
				if table[ab][c] == table[a][bc] {
					n++
				}
			}
		}
	}
	return n
}

// plainDistributive looks for images of blocks by turns: each one must be a block. (Beside these, equal
// points stay equal.)
func plainDistributive(x impl.System) bool {
	table := plainTable(x, false)
	for _, turn := range table {
		if !sameSystem(renumbered(x, turn), x) {
			return false
		}
	}
	return true
}

// plainCycles asks for each point behind how many steps it is back.
func plainCycles(images []int64) []int64 {
	counts := map[int64]int64{}
	for start := range images {
		length := int64(1)
		for a := images[start]; a != int64(start); a = images[a] {
			length++
		}
		counts[length]++
	}
	var lengths []int64
	for n := int64(len(images)); n > 0; n-- {
		lengths = append(lengths, slices.Repeat([]int64{n}, int(counts[n]/n))...)
	}
	return lengths
}

// plainTurns returns the map that is a turn and then another one.
func plainTurns(table [][]int64, a, b int64) []int64 {
	var images []int64
	for _, c := range table[a] {
		images = append(images, table[b][c])
	}
	return images
}

// bitsOf has the point 0 as its lowest bit.
func bitsOf(points []int64) int {
	n := 0
	for _, a := range points {
		n |= 1 << a
	}
	return n
}

// plainCode tells of each set of points, in the bits of its number, whether it is a sum of some rows.
func plainCode(x impl.System) []bool {
	code := make([]bool, 1<<x.Points)
	code[0] = true
	for _, b := range x.Blocks {
		for n, isSum := range code {
			if isSum {
				code[n^bitsOf(b[:])] = true
			}
		}
	}
	return code
}

// plainWeights counts the words of a code of v points.
func plainWeights(v int64, code []bool) []int64 {
	counts := make([]int64, v+1)
	for n, isWord := range code {
		weight := 0
		for a := range v {
			weight += n >> a & 1
		}
		if isWord {
			counts[weight]++
		}
	}
	return counts
}

// plainRank returns the rank by columns, which have a number for each block: block by block, one of the
// columns with a number other than 0 goes away, and is added to the others till these have 0.
func plainRank(x impl.System, p int64) int64 {
	var columns [][]int64
	for a := range x.Points {
		column := make([]int64, len(x.Blocks))
		for i, b := range x.Blocks {
			if has(b, a) {
				column[i] = 1
			}
		}
		columns = append(columns, column)
	}
	rank := int64(0)
	for i := range x.Blocks {
		k := slices.IndexFunc(columns, func(column []int64) bool { return column[i] != 0 })
		if k < 0 {
			continue
		}
		rank++
		pivot := columns[k]
		columns = slices.Delete(columns, k, k+1)
		for _, column := range columns {
			for column[i] != 0 {
				for j := range column {
					column[j] = (column[j] + pivot[j]) % p
				}
			}
		}
	}
	return rank
}

// countSums returns how many different words are sums of multiples of rows, modulo p.
func countSums(x impl.System, p byte) int {
	sums := map[[impl.MaxPoints]byte]bool{{}: true}
	for _, b := range x.Blocks {
		for _, word := range slices.Collect(maps.Keys(sums)) {
			for range p - 1 {
				for _, a := range b {
					word[a] = (word[a] + 1) % p
				}
				sums[word] = true
			}
		}
	}
	return len(sums)
}

// plainJoined tells of each two blocks whether they are different and have a point in common.
func plainJoined(x impl.System) [][]bool {
	joined := make([][]bool, len(x.Blocks))
	for i, b := range x.Blocks {
		for k, c := range x.Blocks {
			joined[i] = append(joined[i], i != k && (has(c, b[0]) || has(c, b[1]) || has(c, b[2])))
		}
	}
	return joined
}

func plainDegrees(joined [][]bool) []int64 {
	var degrees []int64
	for _, row := range joined {
		n := int64(0)
		for _, yes := range row {
			if yes {
				n++
			}
		}
		degrees = append(degrees, n)
	}
	return degrees
}

func plainNeighbours(joined [][]bool, i, k int) int64 {
	n := int64(0)
	for m := range joined {
		if joined[i][m] && joined[k][m] {
			n++
		}
	}
	return n
}

// algebraSystems returns systems of all kinds: partial and changed ones, full ones, such without blocks,
// with one block, and with full systems on some of the points.
func algebraSystems(t *testing.T) []impl.System {
	t.Helper()
	list := partSystems(t)
	for v := int64(3); v <= impl.MaxPoints; v++ {
		list = append(list, impl.System{Points: v, Blocks: []impl.Block{{0, 1, 2}}}, impl.System{Points: v, Blocks: []impl.Block{{v - 3, v - 2, v - 1}}})
	}
	return append(list, named(t, "cyclic15"))
}

// productSystems returns full systems of all kinds, some of them with points renumbered.
func productSystems(t *testing.T) []impl.System {
	t.Helper()
	random := randomNumbers(91)
	var list []impl.System
	for _, x := range append(kindsOfFulls(t), named(t, "cyclic15")) {
		list = append(list, x, renumbered(x, random.order(int(x.Points))))
	}
	return append(list, fulls(t)...)
}

// wantProducts checks two products, the one of points being wanted with its own result and code, and that
// the system stays.
func wantProducts(t *testing.T, what string, plain impl.System, a, b, point, pointCode, element, loopCode int64) {
	t.Helper()
	x, guard := guardSystem(plain)
	c, code := impl.ProductOf(x, a, b)
	if c != point || code != pointCode {
		t.Errorf("ProductOf(%v, %d, %d), %s = %d, %d; want %d, %d", plain, a, b, what, c, code, point, pointCode)
	}
	c, code = impl.LoopProduct(x, a, b)
	if c != element || code != loopCode {
		t.Errorf("LoopProduct(%v, %d, %d), %s = %d, %d; want %d, %d", plain, a, b, what, c, code, element, loopCode)
	}
	guard.check(t, what)
}

// wantTriples checks what is told of triples, and that the system stays.
func wantTriples(t *testing.T, what string, plain impl.System, loop, points int64, distributive bool, wantCode int64) {
	t.Helper()
	x, guard := guardSystem(plain)
	n, code := impl.CountAssociative(x)
	wantValue(t, "CountAssociative of "+what, n, code, loop, wantCode)
	n, code = impl.CountPointTriples(x)
	wantValue(t, "CountPointTriples of "+what, n, code, points, wantCode)
	yes, code := impl.IsDistributive(x)
	wantValue(t, "IsDistributive of "+what, yes, code, distributive, wantCode)
	guard.check(t, what)
}

// wantTurn checks the turn of a point, and that the system stays.
func wantTurn(t *testing.T, what string, plain impl.System, a int64, want []int64, wantCode int64) {
	t.Helper()
	x, guard := guardSystem(plain)
	list, code := impl.TurnOf(x, a)
	wantList(t, "TurnOf, "+what, list, code, want, wantCode)
	spoil(list, -9)
	guard.check(t, "TurnOf, "+what)
}

// wantTurns checks the cycles of two turns, and that the system stays.
func wantTurns(t *testing.T, what string, plain impl.System, a, b int64, want []int64, wantCode int64) {
	t.Helper()
	x, guard := guardSystem(plain)
	list, code := impl.ProductOfTurns(x, a, b)
	wantList(t, "ProductOfTurns, "+what, list, code, want, wantCode)
	spoil(list, -9)
	guard.check(t, "ProductOfTurns, "+what)
}

// wantRank checks a rank, and that the system stays.
func wantRank(t *testing.T, what string, plain impl.System, p, want, wantCode int64) {
	t.Helper()
	x, guard := guardSystem(plain)
	n, code := impl.RankModulo(x, p)
	if n != want || code != wantCode {
		t.Errorf("RankModulo(%v, %d), %s = %d, %d; want %d, %d", plain, p, what, n, code, want, wantCode)
	}
	guard.check(t, "RankModulo, "+what)
}

// wantWeights checks the numbers of words, and that the system stays.
func wantWeights(t *testing.T, what string, plain impl.System, want []int64, wantCode int64) {
	t.Helper()
	x, guard := guardSystem(plain)
	list, code := impl.WordsByWeight(x)
	wantList(t, "WordsByWeight of "+what, list, code, want, wantCode)
	spoil(list, -9)
	guard.check(t, "WordsByWeight of "+what)
}

// wantWord checks whether a set of points is a word, and that the arguments stay.
func wantWord(t *testing.T, what string, plain impl.System, set []int64, want bool, wantCode int64) {
	t.Helper()
	x, systemGuard := guardSystem(plain)
	points := guard(set, -7)
	yes, code := impl.IsWord(x, points.list)
	wantSaid(t, "IsWord", what, plain, set, yes, code, want, wantCode)
	systemGuard.check(t, "IsWord, "+what)
	points.check(t, "IsWord, "+what)
}

// wantDegrees checks the degrees of the block graph, and that the system stays.
func wantDegrees(t *testing.T, what string, plain impl.System, want []int64, wantCode int64) {
	t.Helper()
	x, guard := guardSystem(plain)
	list, code := impl.BlockGraphDegrees(x)
	wantList(t, "BlockGraphDegrees of "+what, list, code, want, wantCode)
	spoil(list, -9)
	guard.check(t, "BlockGraphDegrees of "+what)
}

// wantNeighbours checks the number of the common neighbours of two blocks, and that the system stays.
func wantNeighbours(t *testing.T, what string, plain impl.System, i, k, want, wantCode int64) {
	t.Helper()
	x, guard := guardSystem(plain)
	n, code := impl.CommonNeighbours(x, i, k)
	if n != want || code != wantCode {
		t.Errorf("CommonNeighbours(%v, %d, %d), %s = %d, %d; want %d, %d", plain, i, k, what, n, code, want, wantCode)
	}
	guard.check(t, "CommonNeighbours, "+what)
}
