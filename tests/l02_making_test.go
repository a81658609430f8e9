package tests

import (
	"slices"
	"testing"

	"loop.example/g01355/impl"
)

// ruledBlocks returns the system of all blocks of v points that keep to a rule.
func ruledBlocks(v int64, keeps func(p, q, r int64) bool) impl.System {
	x := impl.System{Points: v}
	for _, b := range triples(v) {
		if keeps(b[0], b[1], b[2]) {
			x.Blocks = append(x.Blocks, b)
		}
	}
	return x
}

// anyOrder tells whether a rule holds for three points in some order.
func anyOrder(rule func(p, q, r int64) bool) func(p, q, r int64) bool {
	return func(p, q, r int64) bool {
		return rule(p, q, r) || rule(p, r, q) || rule(q, p, r) || rule(q, r, p) || rule(r, p, q) || rule(r, q, p)
	}
}

// plainThreefold tells of each three points whether the document names them as a block.
func plainThreefold(rows [][]int64) impl.System {
	n := int64(len(rows))
	v, upright := 3*n, n
	if n%2 == 0 {
		v, upright = 3*n+1, n/2
	}
	return ruledBlocks(v, anyOrder(func(p, q, r int64) bool {
		i, x, k, y, l, z := p/n, p%n, q/n, q%n, r/n, r%n
		switch {
		case p == 3*n && q < 3*n && r < 3*n: // q is n/2 + z of a level, r is z of the level behind it
			return n%2 == 0 && z < n/2 && y == n/2+z && l == (k+1)%3
		case p == 3*n || q == 3*n || r == 3*n:
			return false
		case i == 0 && k == 1 && l == 2 && x == y && y == z:
			return x < upright
		}
		return i == k && l == (i+1)%3 && x < y && rows[x][y] == z
	}))
}

// plainDouble tells of each three points whether the document names them as a block.
func plainDouble(x impl.System) impl.System {
	v := x.Points
	return ruledBlocks(2*v+1, func(p, q, r int64) bool {
		if r == 2*v {
			return q == p+v
		}
		copies := p/v + q/v + r/v
		b := impl.Block{p % v, q % v, r % v}
		slices.Sort(b[:])
		return (copies == 0 || copies == 2) && slices.Contains(x.Blocks, b)
	})
}

// fullSystems returns all full systems of v points, by trying blocks in order.
func fullSystems(v int64) []impl.System {
	var list []impl.System
	blocks := triples(v)
	var try func(x impl.System, from int)
	try = func(x impl.System, from int) {
		if int64(len(x.Blocks)) == v*(v-1)/6 {
			list = append(list, x)
			return
		}
		for i := from; i < len(blocks); i++ {
			if fitsIn(x, blocks[i]) {
				try(impl.System{Points: v, Blocks: slices.Concat(x.Blocks, blocks[i:i+1])}, i+1)
			}
		}
	}
	try(impl.System{Points: v}, 0)
	return list
}

// notFull returns systems that are not full: partial ones, and full ones without a block.
func notFull(t *testing.T) []impl.System {
	t.Helper()
	var list []impl.System
	for _, x := range samples(t) {
		if int64(6*len(x.Blocks)) < x.Points*(x.Points-1) {
			list = append(list, x)
		} else {
			list = append(list, impl.System{Points: x.Points, Blocks: x.Blocks[1:]}, impl.System{Points: x.Points, Blocks: x.Blocks[:len(x.Blocks)-1]})
		}
	}
	return list
}

// families returns the difference families, worked out apart from the program.
func families() map[int64][][][]int64 {
	return map[int64][][][]int64{
		7:  {{{1, 2, 3}}},
		13: {{{1, 3, 4}, {2, 5, 6}}},
		15: {{{1, 3, 4}, {2, 6, 7}}},
	}
}

// plainIsFamily takes the conditions of the document one by one; the numbers must be small.
func plainIsFamily(v int64, list [][]int64) bool {
	counts := map[int64]int{}
	for i, t := range list {
		if len(t) != 3 || t[0] < 1 || t[0] >= t[1] || t[1] >= t[2] || t[0]+t[1] != t[2] && t[0]+t[1]+t[2] != v {
			return false
		}
		if i > 0 && slices.Compare(list[i-1], t) >= 0 {
			return false
		}
		for _, d := range t {
			counts[d]++
		}
	}
	for d := int64(1); d <= (v-1)/2; d++ {
		if v == 15 && d == 5 {
			continue
		}
		if counts[d] != 1 {
			return false
		}
		delete(counts, d)
	}
	return len(counts) == 0
}

// smallTriples returns all triples of numbers in 0..7.
func smallTriples() [][]int64 {
	var list [][]int64
	for i := range int64(8 * 8 * 8) {
		list = append(list, []int64{i / 64, i / 8 % 8, i % 8})
	}
	return list
}

// noFamilies returns what is no difference family of a v in 7, 13 or 15, with the reasons.
func noFamilies() []struct {
	what string
	v    int64
	list [][]int64
} {
	return []struct {
		what string
		v    int64
		list [][]int64
	}{
		{"nil", 7, nil},
		{"no triples", 13, [][]int64{}},
		{"an empty list", 7, [][]int64{{}}},
		{"an empty list of 15", 15, [][]int64{nil}},
		{"an empty list before", 7, [][]int64{{}, {1, 2, 3}}},
		{"an empty list behind", 7, [][]int64{{1, 2, 3}, {}}},
		{"the family of 7 for 13", 13, [][]int64{{1, 2, 3}}},
		{"the family of 7 for 15", 15, [][]int64{{1, 2, 3}}},
		{"the family of 13 for 7", 7, [][]int64{{1, 3, 4}, {2, 5, 6}}},
		{"the family of 13 for 15", 15, [][]int64{{1, 3, 4}, {2, 5, 6}}},
		{"the family of 15 for 13", 13, [][]int64{{1, 3, 4}, {2, 6, 7}}},
		{"only the first triple", 13, [][]int64{{1, 3, 4}}},
		{"only the second triple", 13, [][]int64{{2, 5, 6}}},
		{"only the second triple of 15", 15, [][]int64{{2, 6, 7}}},
		{"a triple of two", 7, [][]int64{{1, 2}}},
		{"a triple of four", 7, [][]int64{{1, 2, 3, 4}}},
		{"a triple of four, 3 twice", 7, [][]int64{{1, 2, 3, 3}}},
		{"triples of two and one", 7, [][]int64{{1, 2}, {3}}},
		{"triples of one", 7, [][]int64{{1}, {2}, {3}}},
		{"one list of six", 13, [][]int64{{1, 3, 4, 2, 5, 6}}},
		{"triples of two and four", 13, [][]int64{{1, 3}, {2, 4, 5, 6}}},
		{"the numbers of a triple descend", 7, [][]int64{{3, 2, 1}}},
		{"first numbers exchanged", 7, [][]int64{{2, 1, 3}}},
		{"last numbers exchanged", 7, [][]int64{{1, 3, 2}}},
		{"exchanged in the second triple", 13, [][]int64{{1, 3, 4}, {2, 6, 5}}},
		{"triples descend", 13, [][]int64{{2, 5, 6}, {1, 3, 4}}},
		{"triples of 15 descend", 15, [][]int64{{2, 6, 7}, {1, 3, 4}}},
		{"a triple twice", 7, [][]int64{{1, 2, 3}, {1, 2, 3}}},
		{"the first triple twice", 13, [][]int64{{1, 3, 4}, {1, 3, 4}, {2, 5, 6}}},
		{"the second triple twice", 13, [][]int64{{1, 3, 4}, {2, 5, 6}, {2, 5, 6}}},
		{"first numbers equal", 7, [][]int64{{1, 1, 2}}},
		{"last numbers equal", 7, [][]int64{{1, 3, 3}}},
		{"a number in two triples", 13, [][]int64{{1, 3, 4}, {1, 5, 6}}},
		{"the family and a triple more", 13, [][]int64{{1, 2, 3}, {1, 3, 4}, {2, 5, 6}}},
		{"the family of 15 and a triple more", 15, [][]int64{{1, 2, 3}, {1, 3, 4}, {2, 6, 7}}},
		{"a sum is wrong", 13, [][]int64{{1, 2, 3}, {4, 5, 6}}},
		{"both sums are wrong", 13, [][]int64{{1, 2, 4}, {3, 5, 6}}},
		{"15 with the number 5", 15, [][]int64{{1, 6, 7}, {2, 3, 5}}},
		{"15 with 5 and 4", 15, [][]int64{{1, 4, 5}, {2, 6, 7}}},
		{"15 with 5 more than once", 15, [][]int64{{1, 3, 4}, {2, 5, 7}, {2, 6, 7}}},
		{"numbers greater than half of 7", 7, [][]int64{{1, 2, 3}, {4, 5, 9}}},
		{"the sum is 7, but 3 is missing", 7, [][]int64{{1, 2, 4}}},
		{"numbers greater than half of 15", 15, [][]int64{{1, 3, 4}, {2, 6, 7}, {8, 9, 17}}},
		{"zero", 7, [][]int64{{0, 1, 1}}},
		{"zero and others", 7, [][]int64{{0, 3, 4}}},
		{"zero and the family", 7, [][]int64{{0, 1, 2}, {1, 2, 3}}},
		{"negative number", 7, [][]int64{{-1, 2, 3}}},
		{"all negative", 7, [][]int64{{-3, -2, -1}}},
		{"negative, the sum is right", 7, [][]int64{{-1, 3, 5}}},
		{"most number", 7, [][]int64{{1, 2, mostInt}}},
		{"most numbers, the sum wraps around", 7, [][]int64{{9, mostInt - 1, mostInt}}},
		{"least number", 7, [][]int64{{leastInt, 2, 3}}},
		{"least numbers", 13, [][]int64{{leastInt, 3, 4}, {leastInt + 1, 5, 6}}},
		{"2 to the 32nd more", 7, [][]int64{{1 << 32, 1<<32 + 2, 1<<32 + 3}}},
		{"a thousand triples", 15, slices.Repeat([][]int64{{1, 3, 4}}, 1000)},
		{"a thousand numbers", 7, [][]int64{make([]int64, 1000)}},
	}
}

func TestIsSquare(t *testing.T) {
	for _, rows := range sampleSquares() {
		if !impl.IsSquare(rows) {
			t.Errorf("IsSquare(%v) = false", rows)
		}
	}
	for what, rows := range noSquares() {
		g := guardRows(rows)
		if impl.IsSquare(g.list) {
			t.Errorf("IsSquare of %s = true", what)
		}
		g.check(t, "IsSquare of "+what)
	}
}

// TestIsSquareOfAllRows looks at all rows of two numbers in -1..2 and of three in 0..2, and at
// squares in which one number is another one.
func TestIsSquareOfAllRows(t *testing.T) {
	try := func(rows [][]int64) {
		t.Helper()
		if got, want := impl.IsSquare(rows), plainIsSquare(rows); got != want {
			t.Errorf("IsSquare(%v) = %v, want %v", rows, got, want)
		}
	}
	for i := range int64(256) {
		try([][]int64{{i%4 - 1, i/4%4 - 1}, {i/16%4 - 1, i/64 - 1}})
	}
	for i := range int64(19683) {
		try([][]int64{{i % 3, i / 3 % 3, i / 9 % 3}, {i / 27 % 3, i / 81 % 3, i / 243 % 3}, {i / 729 % 3, i / 2187 % 3, i / 6561}})
	}
	for n := int64(2); n <= 5; n++ {
		for place := range n * n {
			for z := int64(-1); z <= n; z++ {
				rows := ruledSquare(n, 1, n-1, 1)
				rows[place/n][place%n] = z
				try(rows)
			}
		}
	}
}

func TestSquareKinds(t *testing.T) {
	seen := map[[3]bool]int{}
	for _, rows := range sampleSquares() {
		kinds := plainKinds(rows)
		seen[kinds]++
		var want []int64
		for _, so := range kinds {
			if so {
				want = append(want, 1)
			} else {
				want = append(want, 0)
			}
		}
		g := guardRows(rows)
		got, code := impl.SquareKinds(g.list)
		wantList(t, "SquareKinds", got, code, want, impl.ErrNone)
		spoil(got, -9)
		g.check(t, "SquareKinds")
	}
	for _, kinds := range [][3]bool{{}, {true, false, false}, {true, true, false}, {true, false, true}, {false, true, false}, {false, false, true}} {
		if seen[kinds] == 0 {
			t.Errorf("there is no sample with the kinds %v", kinds)
		}
	}
	for what, rows := range noSquares() {
		g := guardRows(rows)
		got, code := impl.SquareKinds(g.list)
		wantList(t, "SquareKinds of "+what, got, code, nil, impl.ErrRange)
		g.check(t, "SquareKinds of "+what)
	}
}

func TestSquareOf(t *testing.T) {
	for n, want := range map[int64][][]int64{
		2: {{0, 1}, {1, 0}},
		3: {{0, 2, 1}, {2, 1, 0}, {1, 0, 2}},
		4: {{0, 2, 1, 3}, {2, 1, 3, 0}, {1, 3, 0, 2}, {3, 0, 2, 1}},
		5: {{0, 3, 1, 4, 2}, {3, 1, 4, 2, 0}, {1, 4, 2, 0, 3}, {4, 2, 0, 3, 1}, {2, 0, 3, 1, 4}},
	} {
		square, code := impl.SquareOf(n)
		if !sameRows(square, want) || code != impl.ErrNone {
			t.Errorf("SquareOf(%d) = %v, %d; want %v", n, square, code, want)
		}
		kinds, code := impl.SquareKinds(square)
		wantList(t, "SquareKinds of SquareOf", kinds, code, []int64{1, n % 2, 1 - n%2}, impl.ErrNone)
		checkOwnMemory(t, "SquareOf", square)
		again, code := impl.SquareOf(n)
		if !sameRows(again, want) || code != impl.ErrNone {
			t.Errorf("SquareOf(%d) again = %v, %d; want %v", n, again, code, want)
		}
	}
	for _, n := range []int64{0, 1, 6, 7, 8, 9, -1, -2, -5, 1<<32 + 3, -1<<32 + 3, mostInt, leastInt} {
		if square, code := impl.SquareOf(n); len(square) != 0 || code != impl.ErrRange {
			t.Errorf("SquareOf(%d) = %v, %d", n, square, code)
		}
	}
}

// TestThreefoldSystem looks at all squares of 2 to 4, all commutative ones of 5, and some others.
func TestThreefoldSystem(t *testing.T) {
	made := map[int64]int{}
	for _, rows := range sampleSquares() {
		kinds := plainKinds(rows)
		want, wantCode := impl.System{}, int64(impl.ErrState)
		if kinds[0] && (kinds[1] || kinds[2]) {
			want, wantCode = plainThreefold(rows), impl.ErrNone
			made[want.Points]++
		}
		g := guardRows(rows)
		x, code := impl.ThreefoldSystem(g.list)
		wantSystem(t, "ThreefoldSystem", x, code, want, wantCode)
		spoilSystem(x)
		g.check(t, "ThreefoldSystem")
	}
	// As many squares of 3 and 5 are commutative and idempotent, and of 2 and 4 commutative and half
	// idempotent.
	for v, want := range map[int64]int{7: 1, 9: 1, 13: 2, 15: 6} {
		if made[v] != want {
			t.Errorf("%d threefold systems of %d points, want %d", made[v], v, want)
		}
	}
}

func TestThreefoldSystemTexts(t *testing.T) {
	for text, rows := range map[string][][]int64{
		"7:abd,ace,afg,bcg,bef,cdf,deg":                     {{0, 1}, {1, 0}},
		"9:abf,ace,adg,ahi,bcd,beh,bgi,cfi,cgh,dei,dfh,efg": {{0, 2, 1}, {2, 1, 0}, {1, 0, 2}},
	} {
		x, code := impl.ThreefoldSystem(rows)
		wantSystem(t, "ThreefoldSystem", x, code, system(t, text), impl.ErrNone)
	}
}

func TestThreefoldSystemErrors(t *testing.T) {
	for what, rows := range noSquares() {
		g := guardRows(rows)
		x, code := impl.ThreefoldSystem(g.list)
		wantSystem(t, "ThreefoldSystem of "+what, x, code, impl.System{}, impl.ErrRange)
		g.check(t, "ThreefoldSystem of "+what)
	}
	for _, c := range []struct {
		what  string
		rows  [][]int64
		kinds [3]bool
	}{
		{"commutative, of 2", [][]int64{{1, 0}, {0, 1}}, [3]bool{true, false, false}},
		{"commutative, of 3", ruledSquare(3, 1, 1, 0), [3]bool{true, false, false}},
		{"commutative, of 4", ruledSquare(4, 1, 1, 0), [3]bool{true, false, false}},
		{"commutative, of 4, with one number on the diagonal", [][]int64{{0, 1, 2, 3}, {1, 0, 3, 2}, {2, 3, 0, 1}, {3, 2, 1, 0}}, [3]bool{true, false, false}},
		{"commutative, of 5", ruledSquare(5, 1, 1, 0), [3]bool{true, false, false}},
		{"idempotent, of 4", [][]int64{{0, 2, 3, 1}, {3, 1, 0, 2}, {1, 3, 2, 0}, {2, 0, 1, 3}}, [3]bool{false, true, false}},
		{"idempotent, of 5", ruledSquare(5, 2, 4, 0), [3]bool{false, true, false}},
		{"half idempotent, of 4", [][]int64{{0, 2, 1, 3}, {3, 1, 2, 0}, {1, 3, 0, 2}, {2, 0, 3, 1}}, [3]bool{false, false, true}},
		{"none of the kinds", ruledSquare(5, 1, 2, 1), [3]bool{}},
	} {
		if !plainIsSquare(c.rows) || plainKinds(c.rows) != c.kinds {
			t.Errorf("%s: %v is no square, or of other kinds", c.what, c.rows)
		}
		x, code := impl.ThreefoldSystem(c.rows)
		wantSystem(t, "ThreefoldSystem, "+c.what, x, code, impl.System{}, impl.ErrState)
	}
	// What is no square is looked for first.
	x, code := impl.ThreefoldSystem([][]int64{{0, 1, 2}, {2, 0, 1}, {1, 2, 3}})
	wantSystem(t, "ThreefoldSystem, not commutative and no square", x, code, impl.System{}, impl.ErrRange)
}

func TestDoubleSystem(t *testing.T) {
	sevens := fullSystems(7)
	if len(sevens) != 30 {
		t.Fatalf("%d full systems of 7 points", len(sevens))
	}
	for _, plain := range slices.Concat(fullSystems(3), sevens) {
		x, guard := guardSystem(plain)
		y, code := impl.DoubleSystem(x)
		wantSystem(t, "DoubleSystem", y, code, plainDouble(plain), impl.ErrNone)
		spoilSystem(y)
		guard.check(t, "DoubleSystem")
	}
	y, code := impl.DoubleSystem(named(t, "single"))
	wantSystem(t, "DoubleSystem of single", y, code, system(t, "7:abc,adg,aef,bdf,beg,cde,cfg"), impl.ErrNone)
}

func TestDoubleSystemErrors(t *testing.T) {
	for name, x := range invalidSystems() {
		g, guard := guardSystem(x)
		y, code := impl.DoubleSystem(g)
		wantSystem(t, "DoubleSystem of "+name, y, code, impl.System{}, impl.ErrInvalid)
		guard.check(t, "DoubleSystem of "+name)
	}
	// Most of these have too many points, but ErrState comes before ErrLimit.
	for _, x := range notFull(t) {
		g, guard := guardSystem(x)
		y, code := impl.DoubleSystem(g)
		wantSystem(t, "DoubleSystem of what is not full", y, code, impl.System{}, impl.ErrState)
		guard.check(t, "DoubleSystem of what is not full")
	}
	for _, name := range []string{"affine", "cyclic13", "cyclic15", "projective15"} {
		g, guard := guardSystem(named(t, name))
		y, code := impl.DoubleSystem(g)
		wantSystem(t, "DoubleSystem of "+name, y, code, impl.System{}, impl.ErrLimit)
		guard.check(t, "DoubleSystem of "+name)
	}
}

func TestProductSystem(t *testing.T) {
	x, guardX := guardSystem(named(t, "single"))
	y, guardY := guardSystem(named(t, "single"))
	z, code := impl.ProductSystem(x, y)
	// With all sums multiples of 3, the blocks of affine are those of equal or of all numbers.
	wantSystem(t, "ProductSystem of single", z, code, named(t, "affine"), impl.ErrNone)
	spoilSystem(z)
	z, code = impl.ProductSystem(x, x)
	wantSystem(t, "ProductSystem of the same", z, code, named(t, "affine"), impl.ErrNone)
	spoilSystem(z)
	guardX.check(t, "ProductSystem, first")
	guardY.check(t, "ProductSystem, second")
}

func TestProductSystemLimit(t *testing.T) {
	for a, textA := range namedTexts() {
		for b, textB := range namedTexts() {
			if a == "single" && b == "single" {
				continue
			}
			x, guardX := guardSystem(system(t, textA))
			y, guardY := guardSystem(system(t, textB))
			z, code := impl.ProductSystem(x, y)
			wantSystem(t, "ProductSystem of "+a+" and "+b, z, code, impl.System{}, impl.ErrLimit)
			guardX.check(t, "ProductSystem, first")
			guardY.check(t, "ProductSystem, second")
		}
	}
}

func TestProductSystemErrors(t *testing.T) {
	single, fano, open := named(t, "single"), named(t, "fano"), notFull(t)
	none := impl.System{}
	for name, bad := range invalidSystems() {
		x, guard := guardSystem(bad)
		for _, other := range []impl.System{single, fano, open[0], open[len(open)-1], x} {
			z, code := impl.ProductSystem(x, other)
			wantSystem(t, "ProductSystem, first "+name, z, code, none, impl.ErrInvalid)
			z, code = impl.ProductSystem(other, x)
			wantSystem(t, "ProductSystem, second "+name, z, code, none, impl.ErrInvalid)
		}
		guard.check(t, "ProductSystem of "+name)
	}
	// With fano there are too many points, but ErrState comes before ErrLimit.
	for _, bad := range open {
		x, guard := guardSystem(bad)
		for _, other := range []impl.System{single, fano, x} {
			z, code := impl.ProductSystem(x, other)
			wantSystem(t, "ProductSystem, first not full", z, code, none, impl.ErrState)
			z, code = impl.ProductSystem(other, x)
			wantSystem(t, "ProductSystem, second not full", z, code, none, impl.ErrState)
		}
		guard.check(t, "ProductSystem of what is not full")
	}
}

// noFamilySizes returns numbers for which no difference families are told.
func noFamilySizes() []int64 {
	return []int64{0, 1, 3, 5, 6, 8, 9, 11, 12, 14, 16, 19, 21, -7, -13, -15, 1<<32 + 7, -1<<32 + 13, mostInt, leastInt}
}

func TestIsDifferenceFamily(t *testing.T) {
	for v, list := range families() {
		for _, family := range list {
			g := guardRows(family)
			good, code := impl.IsDifferenceFamily(v, g.list)
			wantValue(t, "IsDifferenceFamily", good, code, true, impl.ErrNone)
			g.check(t, "IsDifferenceFamily")
			for _, bad := range noFamilySizes() {
				good, code := impl.IsDifferenceFamily(bad, g.list)
				wantValue(t, "IsDifferenceFamily of another v", good, code, false, impl.ErrRange)
			}
		}
	}
	for _, c := range noFamilies() {
		g := guardRows(c.list)
		good, code := impl.IsDifferenceFamily(c.v, g.list)
		wantValue(t, "IsDifferenceFamily, "+c.what, good, code, false, impl.ErrNone)
		for _, bad := range noFamilySizes() {
			good, code := impl.IsDifferenceFamily(bad, g.list)
			wantValue(t, "IsDifferenceFamily of another v, "+c.what, good, code, false, impl.ErrRange)
		}
		g.check(t, "IsDifferenceFamily, "+c.what)
	}
}

// TestIsDifferenceFamilyOfAllPairs looks at all lists of one or two triples of numbers in 0..7.
func TestIsDifferenceFamilyOfAllPairs(t *testing.T) {
	try := func(v int64, list ...[]int64) {
		t.Helper()
		good, code := impl.IsDifferenceFamily(v, list)
		if want := plainIsFamily(v, list); good != want || code != impl.ErrNone {
			t.Errorf("IsDifferenceFamily(%d, %v) = %v, %d; want %v", v, list, good, code, want)
		}
	}
	all := smallTriples()
	for _, v := range []int64{7, 13, 15} {
		for _, a := range all {
			try(v, a)
			for _, b := range all {
				try(v, a, b)
			}
		}
	}
}

func TestDifferenceFamilies(t *testing.T) {
	for v, want := range families() {
		list, code := impl.DifferenceFamilies(v)
		if code != impl.ErrNone || !slices.EqualFunc(list, want, sameRows) {
			t.Errorf("DifferenceFamilies(%d) = %v, %d; want %v", v, list, code, want)
		}
		checkOwnMemory(t, "DifferenceFamilies", slices.Concat(list...))
		again, code := impl.DifferenceFamilies(v)
		if code != impl.ErrNone || !slices.EqualFunc(again, want, sameRows) {
			t.Errorf("DifferenceFamilies(%d) again = %v, %d; want %v", v, again, code, want)
		}
	}
	for _, v := range noFamilySizes() {
		if list, code := impl.DifferenceFamilies(v); len(list) != 0 || code != impl.ErrRange {
			t.Errorf("DifferenceFamilies(%d) = %v, %d", v, list, code)
		}
	}
}

// TestFamiliesAreAll makes sure of the table that the other tests use. A family has at most two
// triples, since each number stands once.
func TestFamiliesAreAll(t *testing.T) {
	all := smallTriples()
	for v, want := range families() {
		var found [][][]int64
		for _, a := range all {
			if plainIsFamily(v, [][]int64{a}) {
				found = append(found, [][]int64{a})
			}
			for _, b := range all {
				if plainIsFamily(v, [][]int64{a, b}) {
					found = append(found, [][]int64{a, b})
				}
			}
		}
		if !slices.EqualFunc(found, want, sameRows) {
			t.Errorf("the families of %d are %v, not %v", v, found, want)
		}
	}
}

func TestCyclicSystem(t *testing.T) {
	for v, name := range map[int64]string{7: "fano", 13: "cyclic13", 15: "cyclic15"} {
		g := guardRows(families()[v][0])
		x, code := impl.CyclicSystem(v, g.list)
		wantSystem(t, "CyclicSystem", x, code, named(t, name), impl.ErrNone)
		spoilSystem(x)
		g.check(t, "CyclicSystem")
		x, code = impl.CyclicSystem(v, g.list)
		wantSystem(t, "CyclicSystem again", x, code, named(t, name), impl.ErrNone)
	}
}

func TestCyclicSystemErrors(t *testing.T) {
	for v, list := range families() {
		for _, bad := range append(noFamilySizes(), 7, 13, 15) {
			if bad != v {
				x, code := impl.CyclicSystem(bad, list[0])
				wantSystem(t, "CyclicSystem of another v", x, code, impl.System{}, impl.ErrRange)
			}
		}
	}
	for _, c := range noFamilies() {
		g := guardRows(c.list)
		x, code := impl.CyclicSystem(c.v, g.list)
		wantSystem(t, "CyclicSystem, "+c.what, x, code, impl.System{}, impl.ErrRange)
		x, code = impl.CyclicSystem(mostInt, g.list)
		wantSystem(t, "CyclicSystem of another v, "+c.what, x, code, impl.System{}, impl.ErrRange)
		g.check(t, "CyclicSystem, "+c.what)
	}
}
