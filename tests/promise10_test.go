package tests

import (
	"slices"
	"sync"
	"testing"

	"loop.example/g01355/impl"
)

// Promise 10: numbers of systems lead back, and large sets are families. The guarantee adds that common
// numbers add up to all systems, that large sets have all blocks, and that turned systems have as many
// blocks. These tests use the program's own results only; the tests of the functions compare them with
// what is worked out apart.

// systemAt returns the system i of v, which must be there.
func systemAt(t *testing.T, v, i int64) impl.System {
	t.Helper()
	x, code := impl.SystemAt(v, i)
	if code != impl.ErrNone {
		t.Errorf("SystemAt(%d, %d): code %d", v, i, code)
	}
	return x
}

// numberOf returns the number of a system, which must have one.
func numberOf(t *testing.T, x impl.System) int64 {
	t.Helper()
	n, code := impl.NumberOfSystem(x)
	if code != impl.ErrNone {
		t.Errorf("NumberOfSystem(%v): code %d", x, code)
	}
	return n
}

// allTold has the systems of 3, 7 and 9 points as the program tells them, which many tests go through.
var (
	allTold     = map[int64][]impl.System{}
	allToldLock sync.Mutex
)

// toldSystems returns all systems of v, by their numbers.
func toldSystems(t *testing.T, v int64) []impl.System {
	t.Helper()
	allToldLock.Lock()
	defer allToldLock.Unlock()
	if allTold[v] == nil {
		n, code := impl.CountCompletions(impl.System{Points: v})
		if code != impl.ErrNone {
			t.Fatalf("CountCompletions: code %d", code)
		}
		list := make([]impl.System, n)
		eachAtOnce(list, func(i int64, _ impl.System) { list[i] = systemAt(t, v, i) })
		allTold[v] = list
	}
	return allTold[v]
}

// someOf returns each third of some systems, the first and the last one among them, and all if there are few.
func someOf(list []impl.System) []impl.System {
	if len(list) < 40 {
		return list
	}
	var some []impl.System
	for i, x := range list {
		if i%3 == 0 || i == len(list)-1 {
			some = append(some, x)
		}
	}
	return some
}

func TestPromise10Numbers(t *testing.T) {
	for _, v := range []int64{3, 7, 9} {
		list := toldSystems(t, v)
		eachAtOnce(list, func(i int64, x impl.System) {
			wantFull(t, "SystemAt", x, impl.ErrNone, v)
			wantValue(t, "NumberOfSystem of SystemAt", numberOf(t, x), impl.ErrNone, i, impl.ErrNone)
			if i > 0 && compareSystems(list[i-1], x) >= 0 {
				t.Errorf("the systems of %d: %v comes before %v", v, list[i-1], x)
			}
		})
		for _, i := range []int64{-1, int64(len(list))} {
			x, code := impl.SystemAt(v, i)
			wantSystem(t, "SystemAt behind the last number", x, code, impl.System{}, impl.ErrRange)
		}
	}
}

// TestPromise10Made takes systems that the program makes, as they are and with their points renumbered.
func TestPromise10Made(t *testing.T) {
	random := randomNumbers(105)
	found := map[int]bool{}
	for _, x := range madeSystems(t) {
		if x.Points > 9 {
			n, code := impl.NumberOfSystem(x)
			wantValue(t, "NumberOfSystem of many points", n, code, 0, impl.ErrState)
			continue
		}
		y, code := impl.RenumberSystem(x, random.order(int(x.Points)))
		for _, z := range []impl.System{x, y} {
			wantSystem(t, "SystemAt of NumberOfSystem", systemAt(t, z.Points, numberOf(t, z)), code, z, impl.ErrNone)
			found[int(z.Points)] = true
		}
		wantValue(t, "whether equal numbers are equal systems", numberOf(t, x) == numberOf(t, y), code, sameSystem(x, y), impl.ErrNone)
	}
	wantKeys(t, "points", found, 3, 7, 9)
}

// commonNumbers returns the common numbers of a system, which must have them.
func commonNumbers(t *testing.T, x impl.System) []int64 {
	t.Helper()
	list, code := impl.CommonNumbers(x)
	if code != impl.ErrNone {
		t.Errorf("CommonNumbers(%v): code %d", x, code)
	}
	return list
}

func TestPromise10CommonNumbers(t *testing.T) {
	for _, v := range []int64{3, 7, 9} {
		all := toldSystems(t, v)
		eachAtOnce(someOf(all), func(i int64, x impl.System) {
			numbers := commonNumbers(t, x)
			wantValue(t, "the sum of CommonNumbers", sumOf(numbers), impl.ErrNone, int64(len(all)), impl.ErrNone)
			wantValue(t, "the number of CommonNumbers", len(numbers), impl.ErrNone, len(x.Blocks)+1, impl.ErrNone)
			wantValue(t, "the systems with all blocks", numbers[len(x.Blocks)], impl.ErrNone, 1, impl.ErrNone)
			if i%8 != 0 {
				return
			}
			counts := make([]int64, len(x.Blocks)+1)
			for _, y := range all {
				common, code := impl.CommonBlocks(x, y)
				counts[len(common)]++
				apart, apartCode := impl.AreApart(x, y)
				wantValue(t, "AreApart of no common blocks", apart, max(code, apartCode), len(common) == 0, impl.ErrNone)
			}
			wantList(t, "CommonNumbers counted by CommonBlocks", numbers, impl.ErrNone, counts, impl.ErrNone)
		})
	}
}

// TestPromise10FirstApart looks at all systems before the first one that is apart: none of them is.
func TestPromise10FirstApart(t *testing.T) {
	for _, v := range []int64{3, 7, 9} {
		all := toldSystems(t, v)
		eachAtOnce(someOf(all), func(_ int64, x impl.System) {
			y, code := impl.FirstApart(x)
			if commonNumbers(t, x)[0] == 0 {
				wantSystem(t, "FirstApart of none", y, code, impl.System{}, impl.ErrNotFound)
				return
			}
			apart, apartCode := impl.AreApart(x, y)
			wantValue(t, "AreApart of FirstApart", apart, max(code, apartCode), true, impl.ErrNone)
			for _, z := range all[:numberOf(t, y)] {
				apart, code := impl.AreApart(x, z)
				wantValue(t, "AreApart before FirstApart", apart, code, false, impl.ErrNone)
			}
		})
	}
}

// checkLargeSet checks that a large set begins with x, that the numbers of the others ascend, and that it
// is a family of seven that has all blocks, and so each of them once.
func checkLargeSet(t *testing.T, x impl.System, list []impl.System) {
	t.Helper()
	if len(list) != 7 {
		t.Errorf("LargeSetWith(%v) has %d systems", x, len(list))
		return
	}
	wantSystem(t, "the first system of LargeSetWith", list[0], impl.ErrNone, x, impl.ErrNone)
	family, code := impl.IsFamily(list)
	wantValue(t, "IsFamily of LargeSetWith", family, code, true, impl.ErrNone)
	var numbers []int64
	for _, y := range list[1:] {
		numbers = append(numbers, numberOf(t, y))
	}
	if !slices.IsSorted(numbers) {
		t.Errorf("LargeSetWith(%v) has the numbers %v behind the first one", x, numbers)
	}
	for i, y := range list {
		for _, z := range list[:i] {
			apart, code := impl.AreApart(y, z)
			wantValue(t, "AreApart in LargeSetWith", apart, code, true, impl.ErrNone)
		}
	}
	if blocks := blocksOfAll(list); !slices.Equal(blocks, triples(9)) {
		t.Errorf("LargeSetWith(%v) has the blocks %v", x, blocks)
	}
}

func TestPromise10LargeSets(t *testing.T) {
	eachAtOnce(someOf(toldSystems(t, 9)), func(i int64, x impl.System) {
		list, code := impl.LargeSetWith(x)
		wantValue(t, "the code of LargeSetWith", code, code, impl.ErrNone, impl.ErrNone)
		checkLargeSet(t, x, list)
		// With an eighth system it is too large, with one of them again or another system in the place of
		// one it is no family.
		_, code = impl.IsFamily(append(slices.Clone(list), x))
		wantValue(t, "the code of IsFamily of eight", code, code, impl.ErrRange, impl.ErrRange)
		family, code := impl.IsFamily(append(slices.Clone(list[1:]), list[1+i%6]))
		wantValue(t, "IsFamily of a system twice", family, code, false, impl.ErrNone)
		other := slices.Clone(list)
		other[i%7] = systemAt(t, 9, (i*37+11)%840)
		family, code = impl.IsFamily(other)
		wantValue(t, "IsFamily with another system", family, code, sameSystem(other[i%7], list[i%7]), impl.ErrNone)
	})
}

// TestPromise10FirstLargeSets takes the large sets of other systems with each of their systems in front:
// none comes before the first one with this system.
func TestPromise10FirstLargeSets(t *testing.T) {
	all := toldSystems(t, 9)
	numbers := make([][]int64, len(all))
	eachAtOnce(all, func(i int64, x impl.System) {
		list, _ := impl.LargeSetWith(x)
		for _, y := range list {
			n, found := slices.BinarySearchFunc(all, y, compareSystems)
			if !found {
				t.Errorf("LargeSetWith(%v) has %v, which is none of the systems of 9", x, y)
			}
			numbers[i] = append(numbers[i], int64(n))
		}
	})
	for _, set := range numbers {
		for i, n := range set {
			others := slices.Concat(set[:i], set[i+1:])
			slices.Sort(others)
			if slices.Compare(numbers[n][1:], others) > 0 {
				t.Errorf("LargeSetWith of the system %d has the numbers %v; there are %v, too", n, numbers[n], set)
			}
		}
	}
}

// checkTurned checks turned systems: they have as many blocks, and turns follow each other.
func checkTurned(t *testing.T, x impl.System, k, m int64) {
	t.Helper()
	v := x.Points
	y, code := impl.TurnSystem(x, k)
	if code != impl.ErrNone || y.Points != v || len(y.Blocks) != len(x.Blocks) || !impl.IsSystem(y) {
		t.Errorf("TurnSystem(%v, %d) = %v, %d", x, k, y, code)
	}
	back, code := impl.TurnSystem(y, (v-k)%v)
	wantSystem(t, "a system turned by k and by v - k", back, code, x, impl.ErrNone)
	z, code := impl.TurnSystem(y, m)
	both, bothCode := impl.TurnSystem(x, (k+m)%v)
	wantSystem(t, "a system turned twice", z, code, both, bothCode)
	image, imageCode := impl.RenumberSystem(x, turnList(v, k))
	wantSystem(t, "a system renumbered as it is turned", image, imageCode, y, impl.ErrNone)
}

func TestPromise10Turned(t *testing.T) {
	random := randomNumbers(106)
	for _, x := range turnedSamples(t) {
		for k := range x.Points {
			checkTurned(t, x, k, int64(random.below(int(x.Points))))
		}
		y, code := impl.TurnSystem(x, 0)
		wantSystem(t, "a system turned by 0", y, code, x, impl.ErrNone)
	}
}

// TestPromise10Mates looks at all turns: the mate is apart, those by lesser numbers are not.
func TestPromise10Mates(t *testing.T) {
	for _, x := range turnedSamples(t) {
		mate, mateCode := impl.MateByTurning(x)
		least, leastCode := int64(0), int64(impl.ErrNotFound)
		for k := x.Points - 1; k > 0; k-- {
			y, code := impl.TurnSystem(x, k)
			apart, apartCode := impl.AreApart(x, y)
			wantValue(t, "the codes of AreApart of TurnSystem", code, apartCode, impl.ErrNone, impl.ErrNone)
			if apart {
				least, leastCode = k, impl.ErrNone
			}
		}
		wantValue(t, "MateByTurning", mate, mateCode, least, leastCode)
	}
}

// TestPairsRenumbered tests the main guarantee: what is counted of systems beside each other stays if
// points are renumbered, and systems that are apart stay so.
func TestPairsRenumbered(t *testing.T) {
	random := randomNumbers(107)
	for _, v := range []int64{3, 7, 9} {
		all := toldSystems(t, v)
		for range 25 {
			x, z := all[random.below(len(all))], all[random.below(len(all))]
			p := random.order(int(v))
			y, code := impl.RenumberSystem(x, p)
			wantList(t, "CommonNumbers, renumbered", commonNumbers(t, y), code, commonNumbers(t, x), impl.ErrNone)
			image, code := impl.RenumberSystem(z, p)
			before, beforeCode := impl.AreApart(x, z)
			after, afterCode := impl.AreApart(y, image)
			wantValue(t, "AreApart, renumbered", after, max(code, afterCode), before, beforeCode)
			n, code := impl.CountFamilies(x)
			m, newCode := impl.CountFamilies(y)
			wantValue(t, "CountFamilies, renumbered", m, newCode, n, code)
		}
	}
}

// TestFamiliesRenumbered renumbers large sets: they stay large sets, and those of affine are as many.
func TestFamiliesRenumbered(t *testing.T) {
	random := randomNumbers(108)
	list, code := impl.LargeSetWith(named(t, "affine"))
	if code != impl.ErrNone {
		t.Fatalf("LargeSetWith: code %d", code)
	}
	for range 20 {
		p := random.order(9)
		var images []impl.System
		for _, x := range list {
			y, code := impl.RenumberSystem(x, p)
			wantFull(t, "a system of a large set, renumbered", y, code, 9)
			images = append(images, y)
		}
		family, code := impl.IsFamily(images)
		wantValue(t, "IsFamily, renumbered", family, code, true, impl.ErrNone)
		first, code := impl.LargeSetWith(images[0])
		wantValue(t, "the code of LargeSetWith, renumbered", code, code, impl.ErrNone, impl.ErrNone)
		checkLargeSet(t, images[0], first)
	}
}
