package tests

import (
	"slices"
	"sync"
	"testing"

	"loop.example/g01355/impl"
)

// largeSet has the numbers of its seven systems, ascending.
type largeSet [7]int64

// allLargeSets has all large sets, which many tests go through.
var (
	allLargeSets     []largeSet
	allLargeSetsLock sync.Mutex
)

// blockMask has a bit for each block of 9 points, in their order.
type blockMask [2]uint64

func maskOf(x impl.System) blockMask {
	var mask blockMask
	for i, b := range triples(9) {
		if slices.Contains(x.Blocks, b) {
			mask[i/64] |= 1 << (i % 64)
		}
	}
	return mask
}

func (m blockMask) meets(other blockMask) bool {
	return m[0]&other[0] != 0 || m[1]&other[1] != 0
}

func (m blockMask) with(other blockMask) blockMask {
	return blockMask{m[0] | other[0], m[1] | other[1]}
}

// lastMissing returns the last block that is not there, or -1.
func (m blockMask) lastMissing() int {
	for i := len(triples(9)) - 1; i >= 0; i-- {
		if m[i/64]>>(i%64)&1 == 0 {
			return i
		}
	}
	return -1
}

// coverings returns the large sets, in any order: the last block that is missing gets a system that has it.
func coverings(t *testing.T) []largeSet {
	t.Helper()
	var masks []blockMask
	having := map[int][]int64{}
	for n, x := range systemsOf(t, 9) {
		masks = append(masks, maskOf(x))
		for i, b := range triples(9) {
			if slices.Contains(x.Blocks, b) {
				having[i] = append(having[i], int64(n))
			}
		}
	}
	var list []largeSet
	var cover func(done blockMask, numbers []int64)
	cover = func(done blockMask, numbers []int64) {
		i := done.lastMissing()
		if i < 0 {
			list = append(list, largeSet(slices.Sorted(slices.Values(numbers))))
		}
		for _, n := range having[i] {
			if !masks[n].meets(done) {
				cover(done.with(masks[n]), append(numbers, n))
			}
		}
	}
	cover(blockMask{}, nil)
	return list
}

// largeSets returns all large sets, in lexicographic order.
func largeSets(t *testing.T) []largeSet {
	t.Helper()
	allLargeSetsLock.Lock()
	defer allLargeSetsLock.Unlock()
	if allLargeSets == nil {
		allLargeSets = coverings(t)
		slices.SortFunc(allLargeSets, func(a, b largeSet) int { return slices.Compare(a[:], b[:]) })
	}
	return allLargeSets
}

// systemsIn returns the systems of a large set.
func systemsIn(t *testing.T, set largeSet) []impl.System {
	t.Helper()
	var list []impl.System
	for _, n := range set {
		list = append(list, systemsOf(t, 9)[n])
	}
	return list
}

// largeSetsByNumber returns for each system of 9 points the large sets with it, each one without it.
func largeSetsByNumber(t *testing.T) map[int64][][]int64 {
	t.Helper()
	table := map[int64][][]int64{}
	for _, set := range largeSets(t) {
		for i, n := range set {
			table[n] = append(table[n], slices.Concat(set[:i], set[i+1:]))
		}
	}
	return table
}

// plainFirstLargeSet returns the large set with the system n that comes first, the system in front.
func plainFirstLargeSet(t *testing.T, others [][]int64, n int64) []impl.System {
	t.Helper()
	list := []impl.System{systemsOf(t, 9)[n]}
	for _, k := range slices.MinFunc(others, slices.Compare[[]int64]) {
		list = append(list, systemsOf(t, 9)[k])
	}
	return list
}

// plainCommon returns how many blocks are in both.
func plainCommon(x, y impl.System) int {
	return len(x.Blocks) - len(lessBlocks(x.Blocks, y.Blocks))
}

func plainApart(x, y impl.System) bool {
	return plainCommon(x, y) == 0
}

func plainCommonNumbers(t *testing.T, x impl.System) []int64 {
	t.Helper()
	counts := make([]int64, len(x.Blocks)+1)
	for _, y := range systemsOf(t, x.Points) {
		counts[plainCommon(x, y)]++
	}
	return counts
}

// plainFirstApart returns the first system apart from x, and the code beside it.
func plainFirstApart(t *testing.T, x impl.System) (impl.System, int64) {
	t.Helper()
	for _, y := range systemsOf(t, x.Points) {
		if plainApart(x, y) {
			return y, impl.ErrNone
		}
	}
	return impl.System{}, impl.ErrNotFound
}

// turnList returns for each of v points the one that k steps lead to: one step leads from the last point
// to the first one.
func turnList(v, k int64) []int64 {
	p := identity(v)
	return slices.Concat(p[k:], p[:k])
}

func plainTurned(x impl.System, k int64) impl.System {
	return renumbered(x, turnList(x.Points, k))
}

// plainMate returns the least number by which x is turned to one that is apart from it, and the code
// beside it.
func plainMate(x impl.System) (int64, int64) {
	for k := int64(1); k < x.Points; k++ {
		if plainApart(x, plainTurned(x, k)) {
			return k, impl.ErrNone
		}
	}
	return 0, impl.ErrNotFound
}

// plainInFamily takes the conditions of families one by one.
func plainInFamily(list []impl.System) bool {
	for i, x := range list {
		if x.Points != 9 || len(x.Blocks) != 12 {
			return false
		}
		for _, y := range list[:i] {
			if !plainApart(x, y) {
				return false
			}
		}
	}
	return true
}

// eachAtOnce calls work for all systems of a list, with their numbers, several at once.
func eachAtOnce(list []impl.System, work func(n int64, x impl.System)) {
	const workers = 8
	var group sync.WaitGroup
	for w := range workers {
		group.Go(func() {
			for i := w; i < len(list); i += workers {
				work(int64(i), list[i])
			}
		})
	}
	group.Wait()
}

// otherSizes returns numbers of points other than 3, 7 and 9.
func otherSizes() []int64 {
	return []int64{-9, -7, -3, -1, 0, 1, 2, 4, 5, 6, 8, 10, 11, 12, 13, 14, 15, 16, 17, 1<<32 + 7, 1<<32 + 9, 256 + 9, mostInt, leastInt}
}

// noListedSystems returns systems that have no number: such as are not full, and full ones with more points.
func noListedSystems(t *testing.T) []impl.System {
	t.Helper()
	list := append(notFull(t), system(t, "7:abc,adg,beg,cfg,def"), system(t, "9:abc,ade,afg,ahi,bdf,beg,cdg,cef"))
	for v := int64(3); v <= impl.MaxPoints; v++ {
		list = append(list, impl.System{Points: v})
	}
	for _, x := range kindsOfFulls(t) {
		if x.Points < impl.MaxPoints {
			list = append(list, onMore(x, x.Points+1))
		}
		if x.Points > 9 {
			list = append(list, x)
		}
	}
	return append(list, named(t, "cyclic15"), named(t, "cyclic13"))
}

// guardedSystems is a copy of a list of systems with known values in its spare capacity, and in that of
// each system.
type guardedSystems struct {
	list   []impl.System
	all    []impl.System
	guards []guarded[impl.Block]
}

func guardSystems(plain []impl.System) guardedSystems {
	var g guardedSystems
	for _, x := range plain {
		y, guard := guardSystem(x)
		g.list = append(g.list, y)
		g.guards = append(g.guards, guard)
	}
	spare := impl.System{Points: -7, Blocks: []impl.Block{{-7, -8, -9}}}
	g.all = slices.Concat(g.list, []impl.System{spare, spare, spare})
	g.list = slices.Clone(g.all)[:len(g.list)]
	return g
}

func (g guardedSystems) check(t *testing.T, what string) {
	t.Helper()
	if now := g.list[:len(g.all)]; !slices.EqualFunc(now, g.all, sameSystem) {
		t.Errorf("%s: the argument is now %v, not %v", what, now, g.all)
	}
	for _, guard := range g.guards {
		guard.check(t, what)
	}
}

// wantApart checks whether two systems are apart, in both orders, and that they stay.
func wantApart(t *testing.T, what string, plainX, plainY impl.System, want bool, wantCode int64) {
	t.Helper()
	x, guardX := guardSystem(plainX)
	y, guardY := guardSystem(plainY)
	for _, two := range [][2]impl.System{{x, y}, {y, x}} {
		apart, code := impl.AreApart(two[0], two[1])
		if apart != want || code != wantCode {
			t.Errorf("AreApart(%v, %v), %s = %v, %d; want %v, %d", two[0], two[1], what, apart, code, want, wantCode)
		}
	}
	guardX.check(t, "AreApart, "+what)
	guardY.check(t, "AreApart, "+what)
}

// wantAt checks a system that is told by its number.
func wantAt(t *testing.T, v, i int64, want impl.System, wantCode int64) {
	t.Helper()
	x, code := impl.SystemAt(v, i)
	if code != wantCode || !sameSystem(x, want) {
		t.Errorf("SystemAt(%d, %d) = %v, %d; want %v, %d", v, i, x, code, want, wantCode)
	}
	spoilSystem(x)
}

// wantListed checks what is told of a full system of 3, 7 or 9 points beside all others, and that it stays.
func wantListed(t *testing.T, what string, plain impl.System, number int64, numbers []int64, apart impl.System, apartCode int64) {
	t.Helper()
	x, guard := guardSystem(plain)
	n, code := impl.NumberOfSystem(x)
	wantValue(t, "NumberOfSystem of "+what, n, code, number, impl.ErrNone)
	list, code := impl.CommonNumbers(x)
	wantList(t, "CommonNumbers of "+what, list, code, numbers, impl.ErrNone)
	spoil(list, -9)
	y, code := impl.FirstApart(x)
	wantSystem(t, "FirstApart of "+what, y, code, apart, apartCode)
	spoilSystem(y)
	guard.check(t, what)
}

// wantNotListed checks the same beside an error.
func wantNotListed(t *testing.T, what string, plain impl.System, wantCode int64) {
	t.Helper()
	x, guard := guardSystem(plain)
	n, code := impl.NumberOfSystem(x)
	wantValue(t, "NumberOfSystem of "+what, n, code, 0, wantCode)
	list, code := impl.CommonNumbers(x)
	wantList(t, "CommonNumbers of "+what, list, code, nil, wantCode)
	y, code := impl.FirstApart(x)
	wantSystem(t, "FirstApart of "+what, y, code, impl.System{}, wantCode)
	guard.check(t, what)
}

// wantTurned checks a turned system, and that the system stays.
func wantTurned(t *testing.T, what string, plain impl.System, k int64, want impl.System, wantCode int64) {
	t.Helper()
	x, guard := guardSystem(plain)
	y, code := impl.TurnSystem(x, k)
	if code != wantCode || !sameSystem(y, want) {
		t.Errorf("TurnSystem(%v, %d), %s = %v, %d; want %v, %d", plain, k, what, y, code, want, wantCode)
	}
	spoilSystem(y)
	guard.check(t, "TurnSystem, "+what)
}

// wantMate checks the number of a mate by turning, and that the system stays.
func wantMate(t *testing.T, what string, plain impl.System, want, wantCode int64) {
	t.Helper()
	x, guard := guardSystem(plain)
	k, code := impl.MateByTurning(x)
	if k != want || code != wantCode {
		t.Errorf("MateByTurning(%v), %s = %d, %d; want %d, %d", plain, what, k, code, want, wantCode)
	}
	guard.check(t, "MateByTurning, "+what)
}

// wantFamily checks whether a list is a family, and that it stays.
func wantFamily(t *testing.T, what string, plain []impl.System, want bool, wantCode int64) {
	t.Helper()
	g := guardSystems(plain)
	yes, code := impl.IsFamily(g.list)
	if yes != want || code != wantCode {
		t.Errorf("IsFamily(%v), %s = %v, %d; want %v, %d", plain, what, yes, code, want, wantCode)
	}
	g.check(t, "IsFamily, "+what)
}

// wantLargeSets checks the first large set with a system and the number of all of them, and that the
// system stays. The systems of the set must have memory of their own.
func wantLargeSets(t *testing.T, what string, plain impl.System, first []impl.System, count, wantCode int64) {
	t.Helper()
	x, guard := guardSystem(plain)
	list, code := impl.LargeSetWith(x)
	if code != wantCode || !slices.EqualFunc(list, first, sameSystem) {
		t.Errorf("LargeSetWith(%v), %s = %v, %d; want %v, %d", plain, what, list, code, first, wantCode)
	}
	checkSystemMemory(t, "LargeSetWith, "+what, list)
	n, code := impl.CountFamilies(x)
	wantValue(t, "CountFamilies of "+what, n, code, count, wantCode)
	guard.check(t, "large sets with "+what)
}
