package tests

import (
	"slices"
	"sync"
	"testing"

	"loop.example/g01355/impl"
)

// TestSampleAlgebra checks that the samples have what the tests of products and codes need.
func TestSampleAlgebra(t *testing.T) {
	points, twos, threes, weights := map[int]bool{}, map[int]bool{}, map[int]bool{}, map[int]bool{}
	for _, x := range algebraSystems(t) {
		points[int(x.Points)] = true
		twos[int(plainRank(x, 2))], threes[int(plainRank(x, 3))] = true, true
		for k, n := range plainWeights(x.Points, plainCode(x)) {
			weights[k] = weights[k] || n > 0
		}
	}
	wantKeys(t, "points", points, 3, 4, 5, 6, 7, 8, 9, 10, 11, 12, 13, 14, 15)
	wantKeys(t, "as its rank for 2", twos, 0, 1, 2, 3, 4, 5, 6, 7, 8, 9, 10, 11, 12, 13, 14, 15)
	wantKeys(t, "as its rank for 3", threes, 0, 1, 2, 3, 4, 5, 6, 7, 8, 9, 10, 11, 12, 13, 14)
	wantKeys(t, "as the weight of a word", weights, 0, 1, 2, 3, 4, 5, 6, 7, 8, 9, 10, 11, 12, 13, 14, 15)
	full, groups, distributive, cycles := map[int]bool{}, map[int]bool{}, map[int]bool{}, map[int]bool{}
	for _, x := range productSystems(t) {
		v := int(x.Points)
		full[v] = true
		if plainAssociative(plainTable(x, true)) == (x.Points+1)*(x.Points+1)*(x.Points+1) {
			groups[v] = true
		}
		distributive[v] = distributive[v] || plainDistributive(x)
		for _, n := range plainCycles(plainTurns(plainTable(x, false), 0, x.Points-1)) {
			cycles[int(n)] = true
		}
	}
	wantKeys(t, "points, and is full", full, 3, 7, 9, 13, 15)
	wantKeys(t, "points, and a loop that is a group", groups, 3, 7, 15)
	wantKeys(t, "points, and is distributive", distributive, 3, 9)
	wantKeys(t, "as the length of a cycle of turns", cycles, 2, 3, 4, 5, 6)
}

// TestPlainRanks checks the ranks that other tests use: as many numbers make so many different sums.
func TestPlainRanks(t *testing.T) {
	for _, x := range algebraSystems(t) {
		for p, mostPoints := range map[byte]int64{2: 11, 3: 9} {
			want := 1
			for range plainRank(x, int64(p)) {
				want *= int(p)
			}
			if x.Points <= mostPoints && countSums(x, p) != want {
				t.Errorf("samples: %d sums modulo %d of %v, and the rank %d", countSums(x, p), p, x, plainRank(x, int64(p)))
			}
		}
	}
}

func TestProducts(t *testing.T) {
	for _, x := range productSystems(t) {
		points, loop := plainTable(x, false), plainTable(x, true)
		for a := range x.Points {
			for b := range x.Points {
				wantProducts(t, "two points", x, a, b, points[a][b], impl.ErrNone, loop[a][b], impl.ErrNone)
			}
			wantProducts(t, "the unit behind", x, a, x.Points, 0, impl.ErrRange, loop[a][x.Points], impl.ErrNone)
			wantProducts(t, "the unit before", x, x.Points, a, 0, impl.ErrRange, loop[x.Points][a], impl.ErrNone)
		}
		wantProducts(t, "the unit twice", x, x.Points, x.Points, 0, impl.ErrRange, loop[x.Points][x.Points], impl.ErrNone)
	}
}

// TestProductsByHand has the whole tables of two systems.
func TestProductsByHand(t *testing.T) {
	for _, c := range []struct {
		name         string
		points, loop [][]int64
	}{
		{"single", [][]int64{{0, 2, 1}, {2, 1, 0}, {1, 0, 2}}, [][]int64{{3, 2, 1, 0}, {2, 3, 0, 1}, {1, 0, 3, 2}, {0, 1, 2, 3}}},
		{"fano", [][]int64{
			{0, 3, 6, 1, 5, 4, 2}, {3, 1, 4, 0, 2, 6, 5}, {6, 4, 2, 5, 1, 3, 0}, {1, 0, 5, 3, 6, 2, 4},
			{5, 2, 1, 6, 4, 0, 3}, {4, 6, 3, 2, 0, 5, 1}, {2, 5, 0, 4, 3, 1, 6},
		}, [][]int64{
			{7, 3, 6, 1, 5, 4, 2, 0}, {3, 7, 4, 0, 2, 6, 5, 1}, {6, 4, 7, 5, 1, 3, 0, 2}, {1, 0, 5, 7, 6, 2, 4, 3},
			{5, 2, 1, 6, 7, 0, 3, 4}, {4, 6, 3, 2, 0, 7, 1, 5}, {2, 5, 0, 4, 3, 1, 7, 6}, {0, 1, 2, 3, 4, 5, 6, 7},
		}},
	} {
		x := named(t, c.name)
		for a, row := range c.loop {
			for b, want := range row {
				n, code := impl.LoopProduct(x, int64(a), int64(b))
				wantValue(t, "LoopProduct of "+c.name, n, code, want, impl.ErrNone)
			}
		}
		for a, row := range c.points {
			wantTurn(t, c.name, x, int64(a), row, impl.ErrNone)
			for b, want := range row {
				n, code := impl.ProductOf(x, int64(a), int64(b))
				wantValue(t, "ProductOf of "+c.name, n, code, want, impl.ErrNone)
			}
		}
	}
	projective := named(t, "projective15")
	wantProducts(t, "the last points", projective, 13, 14, 0, impl.ErrNone, 0, impl.ErrNone)
	wantProducts(t, "the last point twice", projective, 14, 14, 14, impl.ErrNone, 15, impl.ErrNone)
	wantProducts(t, "the last point and the unit", projective, 14, 15, 0, impl.ErrRange, 14, impl.ErrNone)
}

func TestAssociative(t *testing.T) {
	for _, x := range productSystems(t) {
		wantTriples(t, "a system", x, plainAssociative(plainTable(x, true)), plainAssociative(plainTable(x, false)), plainDistributive(x), impl.ErrNone)
	}
}

// TestAssociativeByHand has numbers that follow from those of the Pasch: three points that are in no block
// are an associative triple if they are in a Pasch, the middle one in a block with each other one. So each
// Pasch has 24 of these. In the loop all other triples are associative, too; of points, those with equal
// points at both ends.
func TestAssociativeByHand(t *testing.T) {
	for _, c := range []struct {
		name         string
		loop, points int64
		distributive bool
	}{
		{"single", 64, 9, true},
		{"fano", 512, 49 + 24*7, false},
		{"affine", 1000 - 9*8*6, 81, true},
		{"cyclic13", 2744 - 13*12*10 + 24*13, 169 + 24*13, false},
		{"cyclic15", 4096, 225 + 24*105, false},
		{"projective15", 4096, 225 + 24*105, false},
	} {
		wantTriples(t, c.name, named(t, c.name), c.loop, c.points, c.distributive, impl.ErrNone)
	}
	wantTriples(t, "another system of 13 points", thirteen(t), 2744-13*12*10+24*8, 169+24*8, false, impl.ErrNone)
	wantTriples(t, "a system without Pasch", system(t, fifteenTexts()[60]), 4096-15*14*12, 225, false, impl.ErrNone)
	for _, x := range systemsOf(t, 7) {
		wantTriples(t, "a system of 7", x, 512, 217, false, impl.ErrNone)
	}
}

// TestDistributive takes all systems of 9 points: all of them are distributive.
func TestDistributive(t *testing.T) {
	for _, x := range systemsOf(t, 9) {
		yes, code := impl.IsDistributive(x)
		wantValue(t, "IsDistributive", yes, code, true, impl.ErrNone)
	}
}

func TestTurns(t *testing.T) {
	for _, x := range productSystems(t) {
		table := plainTable(x, false)
		for a := range x.Points {
			wantTurn(t, "a turn", x, a, table[a], impl.ErrNone)
			for b := range x.Points {
				wantTurns(t, "two turns", x, a, b, plainCycles(plainTurns(table, a, b)), impl.ErrNone)
			}
		}
	}
}

// TestTurnsByHand has cycles of all kinds. Two different turns lead the third point of both points around
// with these in a cycle of three.
func TestTurnsByHand(t *testing.T) {
	ones := func(n int) []int64 { return slices.Repeat([]int64{1}, n) }
	threes := func(n int) []int64 { return slices.Repeat([]int64{3}, n) }
	for _, c := range []struct {
		name string
		a, b int64
		want []int64
	}{
		{"single", 0, 0, ones(3)}, {"single", 2, 2, ones(3)}, {"single", 0, 1, threes(1)}, {"single", 2, 0, threes(1)},
		{"fano", 6, 6, ones(7)}, {"fano", 0, 1, []int64{3, 2, 2}}, {"fano", 6, 0, []int64{3, 2, 2}},
		{"affine", 4, 4, ones(9)}, {"affine", 8, 0, threes(3)},
		{"cyclic13", 12, 12, ones(13)}, {"cyclic13", 0, 1, []int64{3, 3, 3, 2, 2}}, {"cyclic13", 0, 2, []int64{5, 5, 3}},
		{"projective15", 14, 14, ones(15)}, {"projective15", 0, 14, []int64{3, 2, 2, 2, 2, 2, 2}},
	} {
		x := named(t, c.name)
		wantTurns(t, c.name, x, c.a, c.b, c.want, impl.ErrNone)
	}
	wantTurn(t, "the last point", named(t, "projective15"), 14, []int64{13, 12, 11, 10, 9, 8, 7, 6, 5, 4, 3, 2, 1, 0, 14}, impl.ErrNone)
	wantTurn(t, "the centre of affine", named(t, "affine"), 4, []int64{8, 7, 6, 5, 4, 3, 2, 1, 0}, impl.ErrNone)
	wantTurn(t, "the first point of affine", named(t, "affine"), 0, []int64{0, 2, 1, 6, 8, 7, 3, 5, 4}, impl.ErrNone)
}

func TestRankModulo(t *testing.T) {
	for _, x := range slices.Concat(algebraSystems(t), mixedSystems(t), systemsOf(t, 7)) {
		for _, p := range []int64{2, 3} {
			wantRank(t, "a system", x, p, plainRank(x, p), impl.ErrNone)
		}
	}
}

func TestRankModuloByHand(t *testing.T) {
	for _, c := range []struct {
		text       string
		two, three int64
	}{
		{"3:", 0, 0}, {"15:", 0, 0}, {"3:abc", 1, 1}, {"4:bcd", 1, 1}, {"15:mno", 1, 1},
		{"5:abc,ade", 2, 2}, {"6:abc,def", 2, 2}, {"9:abc,def,ghi", 3, 3}, {"6:abd,ace,bcf", 3, 3},
		// The rows of a Pasch have the sum 0 modulo 2.
		{"6:abd,ace,bcf,def", 3, 4}, {"15:abd,ace,bcf,def", 3, 4},
		// Classes of affine have the same sum, and modulo 3 there is a relation more between three of them.
		{"9:abc,adg,beh,cfi,def,ghi", 5, 5}, {"9:abc,adg,aei,beh,bfg,cdh,cfi,def,ghi", 7, 6},
		{namedTexts()["fano"], 4, 6}, {namedTexts()["affine"], 9, 6}, {namedTexts()["cyclic13"], 13, 12},
		{namedTexts()["cyclic15"], 11, 14}, {namedTexts()["projective15"], 11, 14},
		{fifteenTexts()[1], 15, 14}, {fifteenTexts()[168], 14, 14}, {fifteenTexts()[96], 13, 14}, {fifteenTexts()[192], 12, 14},
	} {
		wantRank(t, c.text, system(t, c.text), 2, c.two, impl.ErrNone)
		wantRank(t, c.text, system(t, c.text), 3, c.three, impl.ErrNone)
	}
}

func TestWordsByWeight(t *testing.T) {
	for _, x := range slices.Concat(algebraSystems(t), fulls(t), systemsOf(t, 7)) {
		wantWeights(t, "a system", x, plainWeights(x.Points, plainCode(x)), impl.ErrNone)
	}
}

func TestWordsByWeightByHand(t *testing.T) {
	for _, c := range []struct {
		text string
		want []int64
	}{
		{"3:", []int64{1, 0, 0, 0}},
		{"15:", append([]int64{1}, make([]int64, 15)...)},
		{"3:abc", []int64{1, 0, 0, 1}},
		{"4:bcd", []int64{1, 0, 0, 1, 0}},
		{"5:abc,ade", []int64{1, 0, 0, 2, 1, 0}},
		{"6:abc,def", []int64{1, 0, 0, 2, 0, 0, 1}},
		{"6:abd,ace,bcf,def", []int64{1, 0, 0, 4, 3, 0, 0}},
		{"9:abc,def,ghi", []int64{1, 0, 0, 3, 0, 0, 3, 0, 0, 1}},
		{namedTexts()["fano"], []int64{1, 0, 0, 7, 7, 0, 0, 1}},
		{namedTexts()["affine"], []int64{1, 9, 36, 84, 126, 126, 84, 36, 9, 1}},
		{namedTexts()["cyclic13"], []int64{1, 13, 78, 286, 715, 1287, 1716, 1716, 1287, 715, 286, 78, 13, 1}},
		{namedTexts()["projective15"], []int64{1, 0, 0, 35, 105, 168, 280, 435, 435, 280, 168, 105, 35, 0, 0, 1}},
		{fifteenTexts()[1], []int64{1, 15, 105, 455, 1365, 3003, 5005, 6435, 6435, 5005, 3003, 1365, 455, 105, 15, 1}},
		{fifteenTexts()[192], []int64{1, 1, 7, 63, 189, 357, 595, 835, 835, 595, 357, 189, 63, 7, 1, 1}},
	} {
		wantWeights(t, c.text, system(t, c.text), c.want, impl.ErrNone)
	}
}

func TestIsWord(t *testing.T) {
	random := randomNumbers(92)
	for _, x := range algebraSystems(t) {
		code := plainCode(x)
		for _, set := range setsToTry(x, &random) {
			wantWord(t, "any set", x, set, code[bitsOf(set)], impl.ErrNone)
		}
	}
}

// TestAllWords takes all sets of points of some systems.
func TestAllWords(t *testing.T) {
	list := []impl.System{named(t, "single"), named(t, "fano"), named(t, "affine"), {Points: 3}, {Points: 9}, fanoAnd(t, 10), system(t, "6:abd,ace,bcf,def"), named(t, "projective15"), system(t, fifteenTexts()[192])}
	for _, x := range list {
		code := plainCode(x)
		for _, set := range subsetsOf(x.Points) {
			wantWord(t, "any set", x, set, code[bitsOf(set)], impl.ErrNone)
		}
	}
}

func TestIsWordByHand(t *testing.T) {
	fano, affine, projective := named(t, "fano"), named(t, "affine"), named(t, "projective15")
	for _, c := range []struct {
		what string
		x    impl.System
		set  []int64
		want bool
	}{
		{"no points", fano, nil, true},
		{"no points, an empty list", projective, []int64{}, true},
		{"no points, no blocks", impl.System{Points: 3}, nil, true},
		{"no points of 15, no blocks", impl.System{Points: 15}, nil, true},
		{"a point, no blocks", impl.System{Points: 15}, []int64{14}, false},
		{"all points, no blocks", impl.System{Points: 15}, identity(15), false},
		{"a point", fano, []int64{0}, false},
		{"the last point", projective, []int64{14}, false},
		{"a point of affine", affine, []int64{8}, true},
		{"a pair", fano, []int64{0, 1}, false},
		{"a block", fano, []int64{0, 1, 3}, true},
		{"the last block", projective, []int64{6, 10, 11}, true},
		{"no block", fano, []int64{0, 1, 2}, false},
		{"no block", projective, []int64{0, 1, 3}, false},
		{"two blocks", fano, []int64{1, 2, 3, 6}, true},
		{"the others of a block", fano, []int64{2, 4, 5, 6}, true},
		{"four points with a block", fano, []int64{0, 1, 2, 3}, false},
		{"all points but one", fano, []int64{1, 2, 3, 4, 5, 6}, false},
		{"all points", fano, identity(7), true},
		{"all points of 15", projective, identity(15), true},
		{"all points, which are not the sum", fanoAnd(t, 8), identity(8), false},
		{"the block of single", named(t, "single"), []int64{0, 1, 2}, true},
		{"all points of a part", fanoAnd(t, 15), identity(7), true},
	} {
		wantWord(t, c.what, c.x, c.set, c.want, impl.ErrNone)
	}
}

func TestBlockGraph(t *testing.T) {
	for _, x := range algebraSystems(t) {
		joined := plainJoined(x)
		wantDegrees(t, "a system", x, plainDegrees(joined), impl.ErrNone)
		for i := range x.Blocks {
			for k := range x.Blocks {
				if i != k {
					wantNeighbours(t, "a system", x, int64(i), int64(k), plainNeighbours(joined, i, k), impl.ErrNone)
				}
			}
		}
	}
}

// TestBlockGraphByHand has the numbers of full systems of v points: a block meets (v - 3) / 2 others at
// each of its points; two blocks that meet have (v - 5) / 2 more at their point, and four through the
// others; two that do not meet have nine.
func TestBlockGraphByHand(t *testing.T) {
	for _, x := range kindsOfFulls(t) {
		v := x.Points
		wantDegrees(t, "a full system", x, slices.Repeat([]int64{3 * (v - 3) / 2}, len(x.Blocks)), impl.ErrNone)
		joined := plainJoined(x)
		for i := range x.Blocks {
			for k := range i {
				want := int64(9)
				if joined[i][k] {
					want = (v-5)/2 + 4
				}
				wantNeighbours(t, "a full system", x, int64(i), int64(k), want, impl.ErrNone)
				wantNeighbours(t, "a full system", x, int64(k), int64(i), want, impl.ErrNone)
			}
		}
	}
	wantDegrees(t, "no blocks", impl.System{Points: 3}, nil, impl.ErrNone)
	wantDegrees(t, "no blocks of 15 points", impl.System{Points: 15}, nil, impl.ErrNone)
	wantDegrees(t, "one block", system(t, "3:abc"), []int64{0}, impl.ErrNone)
	wantDegrees(t, "the last block", system(t, "15:mno"), []int64{0}, impl.ErrNone)
	wantDegrees(t, "two that meet", system(t, "5:abc,ade"), []int64{1, 1}, impl.ErrNone)
	wantDegrees(t, "two that do not meet", system(t, "6:abc,def"), []int64{0, 0}, impl.ErrNone)
	wantDegrees(t, "a path", system(t, "8:abc,cde,efg"), []int64{1, 2, 1}, impl.ErrNone)
	wantNeighbours(t, "two that meet", system(t, "5:abc,ade"), 0, 1, 0, impl.ErrNone)
	wantNeighbours(t, "two that do not meet", system(t, "6:abc,def"), 1, 0, 0, impl.ErrNone)
	wantNeighbours(t, "the ends of a path", system(t, "8:abc,cde,efg"), 0, 2, 1, impl.ErrNone)
	wantNeighbours(t, "the first two of a path", system(t, "8:abc,cde,efg"), 0, 1, 0, impl.ErrNone)
	wantNeighbours(t, "three at a point", system(t, "7:abc,ade,afg"), 2, 1, 1, impl.ErrNone)
}

// wantNoAlgebra checks what functions of one system return beside an error.
func wantNoAlgebra(t *testing.T, what string, x impl.System, wantCode int64) {
	t.Helper()
	wantWeights(t, what, x, nil, wantCode)
	wantDegrees(t, what, x, nil, wantCode)
}

// TestAlgebraOfInvalidSystems gives good and bad other arguments too: ErrInvalid comes before ErrRange and
// ErrState.
func TestAlgebraOfInvalidSystems(t *testing.T) {
	for name, x := range invalidSystems() {
		wantNoAlgebra(t, name, x, impl.ErrInvalid)
		wantTriples(t, name, x, 0, 0, false, impl.ErrInvalid)
		for _, a := range append(outside(7), 0, 1, 2, 3, 15, 16) {
			wantTurn(t, name, x, a, nil, impl.ErrInvalid)
			wantRank(t, name, x, a, 0, impl.ErrInvalid)
			for _, b := range []int64{0, 1, a, -1, 7, 8, mostInt, leastInt} {
				wantProducts(t, name, x, a, b, 0, impl.ErrInvalid, 0, impl.ErrInvalid)
				wantTurns(t, name, x, a, b, nil, impl.ErrInvalid)
				wantNeighbours(t, name, x, a, b, 0, impl.ErrInvalid)
			}
		}
		for _, set := range [][]int64{nil, {0}, {0, 1, 2}, {0, 0}, {-1}, {mostInt}, identity(7), identity(15), identity(16)} {
			wantWord(t, name, x, set, false, impl.ErrInvalid)
		}
	}
}

// TestElementsOutside takes systems that are full, and others: ErrRange comes before ErrState.
func TestElementsOutside(t *testing.T) {
	for _, x := range append(notFull(t)[:40], named(t, "single"), named(t, "fano"), named(t, "projective15"), impl.System{Points: 3}, impl.System{Points: 15}, impl.System{Points: 13, Blocks: named(t, "cyclic13").Blocks[1:]}) {
		v := x.Points
		for _, bad := range outside(v) {
			wantTurn(t, "no point", x, bad, nil, impl.ErrRange)
			for _, other := range []int64{0, v - 1, bad, -1, v, mostInt} {
				wantTurns(t, "no point", x, bad, other, nil, impl.ErrRange)
				wantTurns(t, "no point", x, other, bad, nil, impl.ErrRange)
			}
		}
		for _, bad := range outside(v + 1) {
			for _, other := range []int64{0, v - 1, v, bad, -1, mostInt} {
				wantProducts(t, "no element", x, bad, other, 0, impl.ErrRange, 0, impl.ErrRange)
				wantProducts(t, "no element", x, other, bad, 0, impl.ErrRange, 0, impl.ErrRange)
			}
		}
	}
}

// TestProductsOfNotFull takes all points, equal ones and the unit among them.
func TestProductsOfNotFull(t *testing.T) {
	list := append(notFull(t), impl.System{Points: 3}, impl.System{Points: 15}, fanoAnd(t, 8), fanoAnd(t, 15), system(t, "7:abc,adg,beg,cfg,def"))
	for _, x := range list {
		wantTriples(t, "what is not full", x, 0, 0, false, impl.ErrState)
		for a := range x.Points {
			wantTurn(t, "what is not full", x, a, nil, impl.ErrState)
			wantProducts(t, "the unit", x, a, x.Points, 0, impl.ErrRange, 0, impl.ErrState)
			wantProducts(t, "the unit", x, x.Points, a, 0, impl.ErrRange, 0, impl.ErrState)
			for b := range x.Points {
				wantProducts(t, "what is not full", x, a, b, 0, impl.ErrState, 0, impl.ErrState)
				wantTurns(t, "what is not full", x, a, b, nil, impl.ErrState)
			}
		}
		wantProducts(t, "the unit twice", x, x.Points, x.Points, 0, impl.ErrRange, 0, impl.ErrState)
	}
}

func TestRanksOfOtherNumbers(t *testing.T) {
	for _, x := range []impl.System{named(t, "single"), named(t, "fano"), named(t, "projective15"), {Points: 3}, {Points: 15}, system(t, "8:abc,ade")} {
		for _, p := range []int64{0, 1, 4, 5, 6, 7, 9, -1, -2, -3, 1<<32 + 2, 1<<32 + 3, 258, 259, mostInt, leastInt} {
			wantRank(t, "another number", x, p, 0, impl.ErrRange)
		}
	}
}

func TestNoSetsOfPoints(t *testing.T) {
	for _, x := range []impl.System{named(t, "single"), named(t, "fano"), named(t, "projective15"), {Points: 3}, {Points: 15}, system(t, "8:abc,ade"), named(t, "cyclic13"), thirteen(t)} {
		for _, set := range append(noSets(x.Points), identity(x.Points+1), []int64{1, 0}, slices.Repeat(identity(x.Points), 2)) {
			wantWord(t, "no set", x, set, false, impl.ErrRange)
		}
	}
}

// TestBlocksOutside takes equal numbers too, good and bad ones, and systems without blocks, which have no
// numbers, and with one block, which have no two.
func TestBlocksOutside(t *testing.T) {
	for _, x := range []impl.System{{Points: 3}, {Points: 13}, {Points: 15}, named(t, "single"), system(t, "15:mno"), system(t, "5:abc,ade"), named(t, "fano"), named(t, "cyclic13"), named(t, "projective15")} {
		n := int64(len(x.Blocks))
		for _, bad := range outside(n) {
			for _, other := range []int64{0, n - 1, bad, -1, n, mostInt, leastInt} {
				wantNeighbours(t, "no block", x, bad, other, 0, impl.ErrRange)
				wantNeighbours(t, "no block", x, other, bad, 0, impl.ErrRange)
			}
		}
		for i := range n + 1 {
			wantNeighbours(t, "equal numbers", x, i, i, 0, impl.ErrRange)
		}
	}
}

// TestAlgebraAgain calls functions twice, with the first results overwritten: nothing is kept.
func TestAlgebraAgain(t *testing.T) {
	x := named(t, "fano")
	for range 2 {
		wantProducts(t, "fano", x, 6, 3, 4, impl.ErrNone, 4, impl.ErrNone)
		wantTriples(t, "fano", x, 512, 217, false, impl.ErrNone)
		wantTurn(t, "fano", x, 0, []int64{0, 3, 6, 1, 5, 4, 2}, impl.ErrNone)
		wantTurns(t, "fano", x, 0, 1, []int64{3, 2, 2}, impl.ErrNone)
		wantRank(t, "fano", x, 2, 4, impl.ErrNone)
		wantRank(t, "fano", x, 3, 6, impl.ErrNone)
		wantWeights(t, "fano", x, []int64{1, 0, 0, 7, 7, 0, 0, 1}, impl.ErrNone)
		wantWord(t, "fano", x, []int64{2, 4, 5, 6}, true, impl.ErrNone)
		wantDegrees(t, "fano", x, []int64{6, 6, 6, 6, 6, 6, 6}, impl.ErrNone)
		wantNeighbours(t, "fano", x, 0, 6, 5, impl.ErrNone)
	}
}

// TestAlgebraAtOnce asks for products and codes of one system from several sides at once.
func TestAlgebraAtOnce(t *testing.T) {
	x := named(t, "projective15")
	var group sync.WaitGroup
	for a := range x.Points {
		group.Go(func() {
			list, code := impl.TurnOf(x, a)
			wantList(t, "TurnOf at once", list, code, plainTable(x, false)[a], impl.ErrNone)
			n, code := impl.CountAssociative(x)
			wantValue(t, "CountAssociative at once", n, code, 4096, impl.ErrNone)
			n, code = impl.RankModulo(x, 2+a%2)
			wantValue(t, "RankModulo at once", n, code, 11+3*(a%2), impl.ErrNone)
			list, code = impl.WordsByWeight(x)
			wantList(t, "WordsByWeight at once", list, code, []int64{1, 0, 0, 35, 105, 168, 280, 435, 435, 280, 168, 105, 35, 0, 0, 1}, impl.ErrNone)
		})
	}
	group.Wait()
}
