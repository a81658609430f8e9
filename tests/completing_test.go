package tests

import (
	"maps"
	"slices"
	"sync"
	"testing"

	"loop.example/g01355/impl"
)

// allFulls has the full systems of 3, 7 and 9 points, which many tests go through.
var (
	allFulls     = map[int64][]impl.System{}
	allFullsLock sync.Mutex
)

func compareSystems(x, y impl.System) int {
	return slices.CompareFunc(x.Blocks, y.Blocks, compareBlocks)
}

// systemsOf returns all full systems of 3, 7 or 9 points, in order: as all of them are isomorphic,
// exchanges of two points lead from a named one to each other one.
func systemsOf(t *testing.T, v int64) []impl.System {
	t.Helper()
	allFullsLock.Lock()
	defer allFullsLock.Unlock()
	if allFulls[v] == nil {
		list := []impl.System{named(t, map[int64]string{3: "single", 7: "fano", 9: "affine"}[v])}
		seen := map[[12]impl.Block]bool{}
		for k := 0; k < len(list); k++ {
			for i := range v - 1 {
				p := identity(v)
				p[i], p[i+1] = p[i+1], p[i]
				y := renumbered(list[k], p)
				key := [12]impl.Block{}
				copy(key[:], y.Blocks)
				if !seen[key] && !sameSystem(y, list[0]) {
					list = append(list, y)
				}
				seen[key] = true
			}
		}
		slices.SortFunc(list, compareSystems)
		allFulls[v] = list
	}
	return allFulls[v]
}

// hasBlocksOf reports whether all blocks of x are in y.
func hasBlocksOf(y, x impl.System) bool {
	return len(lessBlocks(x.Blocks, y.Blocks)) == 0
}

// systemsWith returns those of some systems that have all blocks of x.
func systemsWith(list []impl.System, x impl.System) []impl.System {
	return slices.DeleteFunc(slices.Clone(list), func(y impl.System) bool { return !hasBlocksOf(y, x) })
}

// plainLeft returns the pairs that are left.
func plainLeft(x impl.System) [][2]int64 {
	var list [][2]int64
	for a := range x.Points {
		for b := a + 1; b < x.Points; b++ {
			if blockOf(x, a, b) < 0 {
				list = append(list, [2]int64{a, b})
			}
		}
	}
	return list
}

func plainLeaveDegrees(x impl.System) []int64 {
	degrees := make([]int64, x.Points)
	for _, p := range plainLeft(x) {
		degrees[p[0]]++
		degrees[p[1]]++
	}
	return degrees
}

// withBlock returns x with a block more, the blocks in order.
func withBlock(x impl.System, b impl.Block) impl.System {
	y := impl.System{Points: x.Points, Blocks: slices.Concat(x.Blocks, []impl.Block{b})}
	slices.SortFunc(y.Blocks, compareBlocks)
	return y
}

func plainIsStuck(x impl.System) bool {
	return !slices.ContainsFunc(triples(x.Points), func(b impl.Block) bool { return fitsIn(x, b) })
}

func plainFilled(x impl.System) impl.System {
	for _, b := range triples(x.Points) {
		if fitsIn(x, b) {
			x = withBlock(x, b)
		}
	}
	return x
}

// plainMissing returns the missing number and the code beside it.
func plainMissing(x impl.System) (int64, int64) {
	full := map[int64]int64{3: 1, 7: 7, 9: 12, 13: 26, 15: 35}[x.Points]
	if full == 0 {
		return 0, impl.ErrState
	}
	return full - int64(len(x.Blocks)), impl.ErrNone
}

// completingCode returns the code beside what is told of completions.
func completingCode(x impl.System) int64 {
	missing, code := plainMissing(x)
	if missing > 12 {
		return impl.ErrLimit
	}
	return code
}

// fewestBlocks returns of all pairs that are left the one that the fewest blocks can be put in with, as a
// list of these blocks.
func fewestBlocks(x impl.System) []impl.Block {
	thirds := plainThirds(x)
	isLeft := func(a, b int64) bool { return a != b && thirds[a][b] < 0 }
	var fewest []impl.Block
	for i, p := range plainLeft(x) {
		var list []impl.Block
		for c := range x.Points {
			if isLeft(p[0], c) && isLeft(p[1], c) {
				b := impl.Block{p[0], p[1], c}
				slices.Sort(b[:])
				list = append(list, b)
			}
		}
		if i == 0 || len(list) < len(fewest) {
			fewest = list
		}
	}
	return fewest
}

// plainCompletions returns all completions, in order: a pair gets a block, the one with the fewest first.
func plainCompletions(x impl.System) []impl.System {
	var list []impl.System
	var put func(y impl.System)
	put = func(y impl.System) {
		if int64(6*len(y.Blocks)) == y.Points*(y.Points-1) {
			list = append(list, y)
			return
		}
		for _, b := range fewestBlocks(y) {
			put(withBlock(y, b))
		}
	}
	put(x)
	slices.SortFunc(list, compareSystems)
	return list
}

// plainFixing returns the first of the least lists of blocks that no other full system has all of.
func plainFixing(t *testing.T, y impl.System) []int64 {
	t.Helper()
	for _, set := range subsetsOf(int64(len(y.Blocks))) {
		if len(systemsWith(systemsOf(t, y.Points), onlyBlocks(y, set))) == 1 {
			return set
		}
	}
	return nil
}

// withoutSome returns x without n blocks.
func withoutSome(x impl.System, n int, random *randomNumbers) impl.System {
	numbers := random.order(len(x.Blocks))[n:]
	slices.Sort(numbers)
	return onlyBlocks(x, numbers)
}

// withMore returns x with as many blocks more as can be put in, in any order.
func withMore(x impl.System, random *randomNumbers) impl.System {
	all := triples(x.Points)
	for _, i := range random.order(len(all)) {
		if fitsIn(x, all[i]) {
			x = withBlock(x, all[i])
		}
	}
	return x
}

// partsOfFulls returns full systems of all kinds without 0 to MaxMissing blocks.
func partsOfFulls(t *testing.T) []impl.System {
	t.Helper()
	random := randomNumbers(81)
	var list []impl.System
	for _, x := range append(kindsOfFulls(t), named(t, "cyclic15")) {
		x = renumbered(x, random.order(int(x.Points)))
		for n := 0; n <= min(12, len(x.Blocks)); n++ {
			list = append(list, withoutSome(x, n, &random))
		}
	}
	return list
}

// withoutSubsystem returns projective15 without the seven blocks on its first seven points, which is left
// open in 30 ways.
func withoutSubsystem(t *testing.T) impl.System {
	t.Helper()
	x := named(t, "projective15")
	x.Blocks = slices.DeleteFunc(x.Blocks, func(b impl.Block) bool { return b[2] < 7 })
	return x
}

// openSystems returns systems with many completions: the blocks that are missing are those of parts that
// can be put in in other ways, too.
func openSystems(t *testing.T) []impl.System {
	t.Helper()
	x := withoutSubsystem(t)
	list := []impl.System{x, impl.System{Points: 15, Blocks: x.Blocks[5:]}, impl.System{Points: 15, Blocks: x.Blocks[:23]}}
	for _, text := range []string{
		"15:abc,ade,afg,ahi,ajk,alm,ano,beg,bhj,bln,bmo,cdg,chk,cmn,dhl,djn,ehm,ekn,fhn,gho,gin,gjm,gkl",
		"15:abe,aci,agn,ahj,bdj,bho,bik,bmn,cek,chm,cno,deh,din,efi,egm,ejo,eln,fhn,ghk,gio,hil,ijm,jkn",
		"15:abc,ade,afg,ajk,alm,ano,bdf,beg,bhj,bik,bln,bmo,cef,chk,clo,ehm,eil,ejo,ekn,fhn,fio,fjl,fkm",
		"13:abe,ach,adm,afl,agi,ajk,bgm,bkl,cik,clm,dfk,egl,ekm,ghk",
	} {
		list = append(list, system(t, text))
	}
	random := randomNumbers(82)
	for _, x := range append(kindsOfFulls(t)[1:], named(t, "cyclic15")) {
		pasch := plainPasch(x)
		for n := 1; n <= min(3, len(pasch)); n++ {
			var out []int64
			for _, k := range random.order(len(pasch))[:n] {
				out = append(out, pasch[k]...)
			}
			list = append(list, onlyBlocks(x, slices.DeleteFunc(identity(int64(len(x.Blocks))), func(i int64) bool { return slices.Contains(out, i) })))
		}
	}
	return list
}

// otherSystems returns systems that are not parts of full ones from the start: some blocks are taken out
// of full ones, and others put in, till none can be put in.
func otherSystems(t *testing.T) []impl.System {
	t.Helper()
	random := randomNumbers(83)
	var list []impl.System
	for _, x := range append(kindsOfFulls(t), named(t, "cyclic15")) {
		for range 12 {
			y := withMore(withoutSome(x, random.below(min(20, len(x.Blocks)+1)), &random), &random)
			missing, _ := plainMissing(y)
			if missing > 0 && missing <= 12 {
				list = append(list, y)
			}
			if missing > 0 && missing < 12 {
				list = append(list, withoutSome(y, min(int(12-missing), len(y.Blocks)), &random))
			}
		}
	}
	return list
}

// completingSystems returns systems whose completions are told.
func completingSystems(t *testing.T) []impl.System {
	t.Helper()
	list := slices.Concat(partsOfFulls(t), openSystems(t), otherSystems(t))
	for _, x := range slices.Concat(partials(), changedSystems(t), fulls(t)) {
		if completingCode(x) == impl.ErrNone {
			list = append(list, x)
		}
	}
	return append(list, impl.System{Points: 3}, impl.System{Points: 7}, impl.System{Points: 9}, system(t, "9:abc,ade"))
}

// noSuchSystems returns systems whose completions are not told: their numbers of points are no numbers of
// full systems, or too many blocks are missing.
func noSuchSystems(t *testing.T) []impl.System {
	t.Helper()
	var list []impl.System
	for v := int64(3); v <= impl.MaxPoints; v++ {
		list = append(list, impl.System{Points: v}, impl.System{Points: v, Blocks: []impl.Block{{v - 3, v - 2, v - 1}}})
	}
	random := randomNumbers(84)
	for _, name := range slices.Sorted(maps.Keys(namedTexts())) {
		x := named(t, name)
		list = append(list, onMore(x, min(x.Points+1, 15)))
		if len(x.Blocks) > 12 {
			list = append(list, withoutSome(x, 13, &random), impl.System{Points: x.Points, Blocks: x.Blocks[13:]}, withoutSome(x, 14, &random), withoutSome(x, 20, &random))
		}
	}
	list = slices.Concat(list, partials(), changedSystems(t))
	return slices.DeleteFunc(list, func(x impl.System) bool { return completingCode(x) == impl.ErrNone })
}

// checkSystemMemory overwrites systems, one after the other: no other may change.
func checkSystemMemory(t *testing.T, what string, list []impl.System) {
	t.Helper()
	var before []impl.System
	for _, x := range list {
		before = append(before, impl.System{Points: x.Points, Blocks: slices.Clone(x.Blocks)})
	}
	for i := range list {
		spoilSystem(list[i])
		for k := i + 1; k < len(list); k++ {
			if !sameSystem(list[k], before[k]) {
				t.Errorf("%s: systems %d and %d share memory", what, i, k)
			}
		}
	}
}

// wantOpen checks what is told of a system without its completions, and that the system stays.
func wantOpen(t *testing.T, what string, plain impl.System, degrees []int64, stuck bool, filled impl.System, wantCode int64) {
	t.Helper()
	x, guard := guardSystem(plain)
	list, code := impl.LeaveDegrees(x)
	wantList(t, "LeaveDegrees of "+what, list, code, degrees, wantCode)
	spoil(list, -9)
	yes, code := impl.IsStuck(x)
	wantValue(t, "IsStuck of "+what, yes, code, stuck, wantCode)
	y, code := impl.FillSystem(x)
	wantSystem(t, "FillSystem of "+what, y, code, filled, wantCode)
	spoilSystem(y)
	guard.check(t, what)
}

// wantMissing checks the missing number, and that the system stays.
func wantMissing(t *testing.T, what string, plain impl.System, want int64, wantCode int64) {
	t.Helper()
	x, guard := guardSystem(plain)
	n, code := impl.MissingNumber(x)
	wantValue(t, "MissingNumber of "+what, n, code, want, wantCode)
	guard.check(t, "MissingNumber of "+what)
}

// wantAll checks the list of completions and the code beside it, and that the systems of the list have
// memory of their own.
func wantAll(t *testing.T, what string, got []impl.System, code int64, want []impl.System, wantCode int64) {
	t.Helper()
	if code != wantCode || !slices.EqualFunc(got, want, sameSystem) {
		t.Errorf("CompletionsOf of %s = %v, %d; want %v, %d", what, got, code, want, wantCode)
		return
	}
	checkSystemMemory(t, "CompletionsOf of "+what, got)
}

// wantCompletions checks what is told of completions, these being known, and that the system stays.
func wantCompletions(t *testing.T, what string, plain impl.System, want []impl.System) {
	t.Helper()
	x, guard := guardSystem(plain)
	n, code := impl.CountCompletions(x)
	wantValue(t, "CountCompletions of "+what, n, code, int64(len(want)), impl.ErrNone)
	yes, code := impl.Fixes(x)
	wantValue(t, "Fixes of "+what, yes, code, len(want) == 1, impl.ErrNone)
	first, code := impl.FirstCompletion(x)
	if len(want) == 0 {
		wantSystem(t, "FirstCompletion of "+what, first, code, impl.System{}, impl.ErrNotFound)
	} else {
		wantSystem(t, "FirstCompletion of "+what, first, code, want[0], impl.ErrNone)
	}
	spoilSystem(first)
	list, code := impl.CompletionsOf(x)
	if len(want) > 200 {
		wantAll(t, what, list, code, nil, impl.ErrLimit)
	} else {
		wantAll(t, what, list, code, want, impl.ErrNone)
	}
	guard.check(t, "completions of "+what)
}

// wantNoCompletions checks what is told of completions beside an error.
func wantNoCompletions(t *testing.T, what string, plain impl.System, wantCode int64) {
	t.Helper()
	x, guard := guardSystem(plain)
	n, code := impl.CountCompletions(x)
	wantValue(t, "CountCompletions of "+what, n, code, 0, wantCode)
	yes, code := impl.Fixes(x)
	wantValue(t, "Fixes of "+what, yes, code, false, wantCode)
	first, code := impl.FirstCompletion(x)
	wantSystem(t, "FirstCompletion of "+what, first, code, impl.System{}, wantCode)
	list, code := impl.CompletionsOf(x)
	wantAll(t, what, list, code, nil, wantCode)
	guard.check(t, "completions of "+what)
}

// wantFixing checks the least part that fixes a system, and that the system stays.
func wantFixing(t *testing.T, what string, plain impl.System, want []int64, wantCode int64) {
	t.Helper()
	y, guard := guardSystem(plain)
	list, code := impl.LeastFixing(y)
	wantList(t, "LeastFixing of "+what, list, code, want, wantCode)
	spoil(list, -9)
	guard.check(t, "LeastFixing of "+what)
}
