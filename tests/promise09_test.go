package tests

import (
	"slices"
	"testing"

	"loop.example/g01355/impl"
)

// Promise 9: products lead back, and words by weight add up to powers of 2. The guarantee adds that turns
// done twice change nothing, that loops are groups only for 3, 7 and 15 points (promise 15 says more of
// these), and that ranks are at most the number of points. These tests use the program's own results only;
// the tests of the functions compare them with what is worked out apart.

// pointProduct returns the product of two points, which must be there.
func pointProduct(t *testing.T, x impl.System, a, b int64) int64 {
	t.Helper()
	c, code := impl.ProductOf(x, a, b)
	if code != impl.ErrNone {
		t.Errorf("ProductOf(%v, %d, %d): code %d", x, a, b, code)
	}
	return c
}

// loopProduct returns the product of two elements of the loop, which must be there.
func loopProduct(t *testing.T, x impl.System, a, b int64) int64 {
	t.Helper()
	c, code := impl.LoopProduct(x, a, b)
	if code != impl.ErrNone {
		t.Errorf("LoopProduct(%v, %d, %d): code %d", x, a, b, code)
	}
	return c
}

func TestPromise9ProductsLeadBack(t *testing.T) {
	for _, x := range slices.Concat(madeSystems(t), kindsOfFulls(t)) {
		for a := range x.Points {
			for b := range x.Points {
				c := pointProduct(t, x, a, b)
				if pointProduct(t, x, a, c) != b || pointProduct(t, x, c, b) != a || pointProduct(t, x, b, a) != c {
					t.Errorf("the product of %d and %d of %v is %d, and does not lead back", a, b, x, c)
				}
				third, code := impl.ThirdPoint(x, a, b)
				if a == b {
					third, code = a, impl.ErrNone
				}
				wantValue(t, "a product", c, impl.ErrNone, third, code)
			}
		}
	}
}

func TestPromise9LoopsLeadBack(t *testing.T) {
	for _, x := range slices.Concat(madeSystems(t), kindsOfFulls(t)) {
		unit := x.Points
		for a := range unit + 1 {
			for b := range unit + 1 {
				c := loopProduct(t, x, a, b)
				if loopProduct(t, x, a, c) != b || loopProduct(t, x, c, b) != a || loopProduct(t, x, b, a) != c {
					t.Errorf("the loop's product of %d and %d of %v is %d, and does not lead back", a, b, x, c)
				}
				if a != b && a != unit && b != unit && c != pointProduct(t, x, a, b) {
					t.Errorf("the loop's product of %d and %d of %v is %d, that of points %d", a, b, x, c, pointProduct(t, x, a, b))
				}
			}
			if loopProduct(t, x, a, a) != unit || loopProduct(t, x, a, unit) != a || loopProduct(t, x, unit, a) != a {
				t.Errorf("%d and the unit of %v", a, x)
			}
		}
	}
}

// TestPromise9Triples counts with the program's own products.
func TestPromise9Triples(t *testing.T) {
	for _, x := range append(kindsOfFulls(t)[:9], named(t, "projective15")) {
		tables := [][][]int64{nil, nil}
		for a := range x.Points + 1 {
			tables[0], tables[1] = append(tables[0], nil), append(tables[1], nil)
			for b := range x.Points + 1 {
				tables[1][a] = append(tables[1][a], loopProduct(t, x, a, b))
				if a < x.Points && b < x.Points {
					tables[0][a] = append(tables[0][a], pointProduct(t, x, a, b))
				}
			}
		}
		n, code := impl.CountPointTriples(x)
		wantValue(t, "CountPointTriples", n, code, plainAssociative(tables[0]), impl.ErrNone)
		n, code = impl.CountAssociative(x)
		wantValue(t, "CountAssociative", n, code, plainAssociative(tables[1]), impl.ErrNone)
	}
}

// turnOf returns the turn of a point, which must be there.
func turnOf(t *testing.T, x impl.System, a int64) []int64 {
	t.Helper()
	turn, code := impl.TurnOf(x, a)
	if code != impl.ErrNone || int64(len(turn)) != x.Points {
		t.Fatalf("TurnOf(%v, %d) = %v, %d", x, a, turn, code)
	}
	return turn
}

func TestPromise9TurnsTwice(t *testing.T) {
	for _, x := range slices.Concat(madeSystems(t), kindsOfFulls(t)) {
		for a := range x.Points {
			turn := turnOf(t, x, a)
			for b, c := range turn {
				if turn[c] != int64(b) || (c == int64(b)) != (a == int64(b)) || c != pointProduct(t, x, a, int64(b)) {
					t.Errorf("TurnOf(%v, %d) = %v: wrong at %d", x, a, turn, b)
				}
			}
			lengths, code := impl.ProductOfTurns(x, a, a)
			wantList(t, "ProductOfTurns of equal points", lengths, code, slices.Repeat([]int64{1}, int(x.Points)), impl.ErrNone)
		}
	}
}

// TestPromise9Cycles finds the cycles of turns in those of chapter 3: in each of them, the two turns lead
// every other point around in one way, and the points between them in the other one.
func TestPromise9Cycles(t *testing.T) {
	for _, x := range slices.Concat(madeSystems(t), kindsOfFulls(t)) {
		for a := range x.Points {
			for b := range x.Points {
				lengths, code := impl.ProductOfTurns(x, a, b)
				descend := func(m, n int64) int { return int(n - m) }
				if code != impl.ErrNone || sumOf(lengths) != x.Points || !slices.IsSortedFunc(lengths, descend) {
					t.Errorf("ProductOfTurns(%v, %d, %d) = %v, %d", x, a, b, lengths, code)
				}
				if a == b {
					continue
				}
				cycles, code := impl.TypeOf(x, a, b)
				want := []int64{3}
				for _, n := range cycles {
					want = append(want, n/2, n/2)
				}
				slices.SortFunc(want, descend)
				wantList(t, "ProductOfTurns", lengths, impl.ErrNone, want, code)
			}
		}
	}
}

// TestPromise9Distributive uses that a product is distributive just if turns lead the system to itself.
func TestPromise9Distributive(t *testing.T) {
	for _, x := range slices.Concat(madeSystems(t), kindsOfFulls(t)) {
		stays := true
		for a := range x.Points {
			leads, code := impl.LeadsTo(x, x, turnOf(t, x, a))
			stays = stays && leads && code == impl.ErrNone
		}
		yes, code := impl.IsDistributive(x)
		wantValue(t, "IsDistributive", yes, code, stays, impl.ErrNone)
	}
}

// ranksOf returns the ranks for 2 and 3, which must be there.
func ranksOf(t *testing.T, x impl.System) (int64, int64) {
	t.Helper()
	two, code := impl.RankModulo(x, 2)
	three, otherCode := impl.RankModulo(x, 3)
	if code != impl.ErrNone || otherCode != impl.ErrNone {
		t.Errorf("RankModulo(%v): codes %d and %d", x, code, otherCode)
	}
	return two, three
}

// weightsOf returns the numbers of words by weight, which must be there.
func weightsOf(t *testing.T, x impl.System) []int64 {
	t.Helper()
	weights, code := impl.WordsByWeight(x)
	if code != impl.ErrNone || int64(len(weights)) != x.Points+1 {
		t.Fatalf("WordsByWeight(%v) = %v, %d", x, weights, code)
	}
	return weights
}

func TestPromise9WordsAddUp(t *testing.T) {
	for _, x := range slices.Concat(algebraSystems(t), madeSystems(t)) {
		two, _ := ranksOf(t, x)
		weights := weightsOf(t, x)
		if sum := sumOf(weights); sum != 1<<two || weights[0] != 1 || weights[3] < int64(len(x.Blocks)) {
			t.Errorf("WordsByWeight(%v) = %v with the sum %d, and the rank is %d", x, weights, sum, two)
		}
	}
}

// TestPromise9Ranks has less for 3 than for any numbers, as the three 1s of a row have the sum 0.
func TestPromise9Ranks(t *testing.T) {
	for _, x := range slices.Concat(algebraSystems(t), madeSystems(t)) {
		two, three := ranksOf(t, x)
		blocks := int64(len(x.Blocks))
		if two > x.Points || three > x.Points-1 || two > blocks || three > blocks || (two == 0) != (blocks == 0) || (three == 0) != (blocks == 0) {
			t.Errorf("the ranks of %v are %d and %d", x, two, three)
		}
		// A block more makes the rank greater by one, or leaves it.
		for i := range x.Blocks {
			less, code := impl.TakeBlock(x, int64(i))
			if code != impl.ErrNone {
				t.Fatalf("TakeBlock: code %d", code)
			}
			lessTwo, lessThree := ranksOf(t, less)
			if two < lessTwo || two > lessTwo+1 || three < lessThree || three > lessThree+1 {
				t.Errorf("the ranks of %v are %d and %d; without the block %d they are %d and %d", x, two, three, i, lessTwo, lessThree)
			}
		}
	}
}

// isWord reports what IsWord says, which must not be an error.
func isWord(t *testing.T, x impl.System, set []int64) bool {
	t.Helper()
	yes, code := impl.IsWord(x, set)
	if code != impl.ErrNone {
		t.Errorf("IsWord(%v, %v): code %d", x, set, code)
	}
	return yes
}

// sumOfSets returns the points that are in just one of two sets, ascending.
func sumOfSets(first, second []int64) []int64 {
	var sum []int64
	for a := range int64(impl.MaxPoints) {
		if slices.Contains(first, a) != slices.Contains(second, a) {
			sum = append(sum, a)
		}
	}
	return sum
}

func TestPromise9SumsOfBlocks(t *testing.T) {
	random := randomNumbers(191)
	for _, x := range slices.Concat(algebraSystems(t), madeSystems(t)[:25]) {
		if !isWord(t, x, nil) {
			t.Errorf("the empty sum of %v is no word", x)
		}
		for i, b := range x.Blocks {
			if !isWord(t, x, b[:]) {
				t.Errorf("the block %v of %v is no word", b, x)
			}
			for _, c := range x.Blocks[:i] {
				if sum := sumOfSets(b[:], c[:]); !isWord(t, x, sum) {
					t.Errorf("the sum %v of two blocks of %v is no word", sum, x)
				}
			}
		}
		// Sums of any blocks are words, and change no other set from a word to none.
		for range 20 {
			var sum []int64
			for _, b := range x.Blocks {
				if random.below(2) == 0 {
					sum = sumOfSets(sum, b[:])
				}
			}
			set := random.order(int(x.Points))[:random.below(int(x.Points)+1)]
			slices.Sort(set)
			if !isWord(t, x, sum) || isWord(t, x, set) != isWord(t, x, sumOfSets(set, sum)) {
				t.Errorf("the sum %v of blocks of %v, and the set %v", sum, x, set)
			}
		}
	}
}

// TestPromise9AllWords counts the sets that are called words.
func TestPromise9AllWords(t *testing.T) {
	for _, x := range []impl.System{named(t, "single"), named(t, "fano"), named(t, "affine"), {Points: 3}, {Points: 9}, fanoAnd(t, 9), system(t, "6:abd,ace,bcf,def"), system(t, "11:abc,ade,bdf,ghi"), named(t, "cyclic13"), named(t, "projective15")} {
		var words [][]int64
		for _, set := range subsetsOf(x.Points) {
			if isWord(t, x, set) {
				words = append(words, set)
			}
		}
		weights := make([]int64, x.Points+1)
		for _, set := range words {
			weights[len(set)]++
		}
		wantList(t, "WordsByWeight", weightsOf(t, x), impl.ErrNone, weights, impl.ErrNone)
	}
}

// TestPromise9BlockGraph has degrees that are as many as the blocks that meet. The ways from a block over
// another one to a third one are counted by the ends and by the block between them.
func TestPromise9BlockGraph(t *testing.T) {
	for _, x := range slices.Concat(algebraSystems(t), madeSystems(t)[:12]) {
		degrees, code := impl.BlockGraphDegrees(x)
		if code != impl.ErrNone || len(degrees) != len(x.Blocks) {
			t.Fatalf("BlockGraphDegrees(%v) = %v, %d", x, degrees, code)
		}
		var ways, commons int64
		for i, n := range degrees {
			meeting, code := impl.MeetingBlocks(x, int64(i))
			wantValue(t, "a degree", n, impl.ErrNone, int64(len(meeting)), code)
			ways += n * (n - 1) / 2
			for k := range i {
				common, code := impl.CommonNeighbours(x, int64(i), int64(k))
				back, backCode := impl.CommonNeighbours(x, int64(k), int64(i))
				wantValue(t, "CommonNeighbours the other way round", back, backCode, common, code)
				commons += common
			}
		}
		wantValue(t, "the ways over a block", commons, impl.ErrNone, ways, impl.ErrNone)
	}
}

// algebraCounts returns all that is counted of products and codes.
func algebraCounts(x impl.System) []int64 {
	var counts []int64
	for _, ask := range []func(impl.System) (int64, int64){impl.CountAssociative, impl.CountPointTriples} {
		n, code := ask(x)
		counts = append(counts, n, code)
	}
	for _, p := range []int64{2, 3} {
		n, code := impl.RankModulo(x, p)
		counts = append(counts, n, code)
	}
	yes, code := impl.IsDistributive(x)
	if yes {
		counts = append(counts, 1)
	}
	counts = append(counts, code)
	for _, list := range []func(impl.System) ([]int64, int64){impl.WordsByWeight, impl.BlockGraphDegrees} {
		ns, code := list(x)
		slices.Sort(ns)
		counts = append(append(counts, ns...), code)
	}
	return counts
}

// TestAlgebraRenumbered tests the main guarantee: what is counted stays if points are renumbered, and
// products, turns and words are those of the system, with their points renumbered.
func TestAlgebraRenumbered(t *testing.T) {
	random := randomNumbers(192)
	for _, x := range slices.Concat(algebraSystems(t), madeSystems(t)) {
		p := random.order(int(x.Points))
		y, code := impl.RenumberSystem(x, p)
		if code != impl.ErrNone {
			t.Fatalf("RenumberSystem: code %d", code)
		}
		wantList(t, "counts of products and codes, renumbered", algebraCounts(y), impl.ErrNone, algebraCounts(x), impl.ErrNone)
		wantList(t, "words by weight, renumbered", weightsOf(t, y), impl.ErrNone, weightsOf(t, x), impl.ErrNone)
		for range 5 {
			set := random.order(int(x.Points))[:random.below(int(x.Points)+1)]
			slices.Sort(set)
			wantValue(t, "IsWord, renumbered", isWord(t, y, imageOf(set, p)), impl.ErrNone, isWord(t, x, set), impl.ErrNone)
		}
		if full, _ := impl.IsFull(x); !full {
			continue
		}
		for range 10 {
			a, b := int64(random.below(int(x.Points))), int64(random.below(int(x.Points)))
			wantValue(t, "a product, renumbered", pointProduct(t, y, p[a], p[b]), impl.ErrNone, p[pointProduct(t, x, a, b)], impl.ErrNone)
			wantValue(t, "a turn, renumbered", turnOf(t, y, p[a])[p[b]], impl.ErrNone, p[turnOf(t, x, a)[b]], impl.ErrNone)
			lengths, code := impl.ProductOfTurns(x, a, b)
			images, imagesCode := impl.ProductOfTurns(y, p[a], p[b])
			wantList(t, "cycles of turns, renumbered", images, imagesCode, lengths, code)
		}
	}
}

// TestNumbersRenumbered tests the numbers of Pasch, classes, subsystems and words of full systems together:
// all of them stay if points are renumbered.
func TestNumbersRenumbered(t *testing.T) {
	numbers := func(x impl.System) []int64 {
		pasch, paschCode := impl.CountPasch(x)
		classes, near, classesCode := impl.CountClasses(x)
		subsystems, partsCode := impl.Subsystems(x)
		weights, weightsCode := impl.WordsByWeight(x)
		list := []int64{pasch, paschCode, classes, near, classesCode, partsCode, weightsCode}
		return slices.Concat(list, countBySize(subsystems), weights)
	}
	random := randomNumbers(193)
	different := map[[2]int64]bool{}
	for _, x := range slices.Concat(kindsOfFulls(t), madeSystems(t)) {
		y, code := impl.RenumberSystem(x, random.order(int(x.Points)))
		before := numbers(x)
		wantList(t, "numbers, renumbered", numbers(y), code, before, impl.ErrNone)
		different[[2]int64{before[0], before[2]}] = true
	}
	if len(different) < 15 {
		t.Errorf("samples: only %d different numbers of Pasch and classes", len(different))
	}
}
