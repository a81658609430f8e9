package tests

import (
	"slices"
	"testing"

	"loop.example/g01355/impl"
)

// Promise 8: completions are full and have all blocks, and parts that fix a system have it as their only
// completion. The guarantee adds that filled systems are stuck. These tests use the program's own results
// only; the tests of the functions compare them with what is worked out apart.

// fullsFor returns the completions of a system, which must be told.
func fullsFor(t *testing.T, x impl.System) []impl.System {
	t.Helper()
	list, code := impl.CompletionsOf(x)
	if code != impl.ErrNone {
		t.Errorf("CompletionsOf(%v): code %d", x, code)
	}
	return list
}

// checkHas checks that y has all blocks of x.
func checkHas(t *testing.T, what string, y, x impl.System) {
	t.Helper()
	common, code := impl.CommonBlocks(x, y)
	if code != impl.ErrNone || !slices.Equal(common, x.Blocks) {
		t.Errorf("%s: %v has %v of the blocks of %v, %d", what, y, common, x, code)
	}
}

// checkCompletion checks that y is full and has all blocks of x, and as many more as are missing.
func checkCompletion(t *testing.T, x, y impl.System) {
	t.Helper()
	full, code := impl.IsFull(y)
	if !full || code != impl.ErrNone {
		t.Errorf("%v, a completion of %v, is not full, %d", y, x, code)
	}
	checkHas(t, "a completion", y, x)
	missing, code := impl.MissingNumber(x)
	wantValue(t, "the missing number", int64(len(y.Blocks)-len(x.Blocks)), impl.ErrNone, missing, code)
}

// checkCompletions checks the completions of a system one by one, their order, the first one and their
// number.
func checkCompletions(t *testing.T, x impl.System) {
	t.Helper()
	list := fullsFor(t, x)
	for i, y := range list {
		checkCompletion(t, x, y)
		if i > 0 && compareSystems(list[i-1], y) >= 0 {
			t.Errorf("completions of %v: %v comes before %v", x, list[i-1], y)
		}
	}
	n, code := impl.CountCompletions(x)
	wantValue(t, "CountCompletions", n, code, int64(len(list)), impl.ErrNone)
	fixes, code := impl.Fixes(x)
	wantValue(t, "Fixes", fixes, code, len(list) == 1, impl.ErrNone)
	first, code := impl.FirstCompletion(x)
	if len(list) > 0 {
		wantSystem(t, "FirstCompletion", first, code, list[0], impl.ErrNone)
	} else {
		wantSystem(t, "FirstCompletion of none", first, code, impl.System{}, impl.ErrNotFound)
	}
}

// isListed reports whether the completions of x are at most MaxCompletions.
func isListed(x impl.System) bool {
	return x.Points != 9 || len(x.Blocks) > 0
}

// listedSystems returns systems whose completions are told and listed.
func listedSystems(t *testing.T) []impl.System {
	t.Helper()
	return slices.DeleteFunc(completingSystems(t), func(x impl.System) bool { return !isListed(x) })
}

func TestPromise8Completions(t *testing.T) {
	some, none := 0, 0
	for _, x := range listedSystems(t) {
		checkCompletions(t, x)
		if len(fullsFor(t, x)) > 0 {
			some++
		} else {
			none++
		}
	}
	if some < 300 || none < 100 {
		t.Errorf("samples: with completions %d, without %d", some, none)
	}
}

// TestPromise8MadeSystems takes blocks out of full systems that the program makes: these are among the
// completions of what is left of them.
func TestPromise8MadeSystems(t *testing.T) {
	random := randomNumbers(181)
	for _, y := range madeSystems(t) {
		for _, n := range []int{0, 1, 4, 8, 12} {
			x := y
			for range min(n, len(y.Blocks)-1) {
				less, code := impl.TakeBlock(x, int64(random.below(len(x.Blocks))))
				if code != impl.ErrNone {
					t.Fatalf("TakeBlock: code %d", code)
				}
				x = less
			}
			checkCompletions(t, x)
			if list := fullsFor(t, x); !slices.ContainsFunc(list, func(z impl.System) bool { return sameSystem(y, z) }) {
				t.Errorf("%v is no completion of %v, these are %v", y, x, list)
			}
		}
	}
}

// TestPromise8BlockByBlock puts in each block that can be put in: the completions are those of the larger
// systems that have a pair that is left, and what a block is in is among the completions without it.
func TestPromise8BlockByBlock(t *testing.T) {
	for _, x := range listedSystems(t) {
		left, _ := impl.PairsLeft(x)
		free, code := impl.FreeBlocks(x)
		if code != impl.ErrNone || len(left) == 0 {
			continue
		}
		list := fullsFor(t, x)
		counts := make([]int, len(left))
		for _, b := range free {
			more, code := impl.PutBlock(x, b)
			if code != impl.ErrNone {
				t.Fatalf("PutBlock(%v, %v): code %d", x, b, code)
			}
			larger := fullsFor(t, more)
			if want := systemsWith(list, more); !slices.EqualFunc(larger, want, sameSystem) {
				t.Errorf("completions of %v: %v; without %v they are %v", more, larger, b, list)
			}
			for i, p := range left {
				if has(b, p[0]) && has(b, p[1]) {
					counts[i] += len(larger)
				}
			}
		}
		for i, n := range counts {
			wantValue(t, "the completions by the blocks with a pair", n, impl.ErrNone, len(list), impl.ErrNone)
			if n != len(list) {
				t.Fatalf("%v: the pair %v", x, left[i])
			}
		}
	}
}

// TestPromise8Trades tests the main guarantee for completions: trades lead from each one to each other one.
func TestPromise8Trades(t *testing.T) {
	random := randomNumbers(182)
	for _, x := range listedSystems(t) {
		list := fullsFor(t, x)
		for range min(20, len(list)) {
			y, z := list[random.below(len(list))], list[random.below(len(list))]
			change, code := impl.DifferenceTrade(y, z)
			if code != impl.ErrNone {
				t.Errorf("DifferenceTrade(%v, %v): code %d", y, z, code)
			}
			end, code := impl.CarryOut(y, change)
			wantSystem(t, "CarryOut from a completion to another one", end, code, z, impl.ErrNone)
		}
	}
}

// TestPromise8Filled checks that filled systems are stuck and have all blocks of the system, and besides
// only such as can be put in, the least of which is always there.
func TestPromise8Filled(t *testing.T) {
	for _, x := range slices.Concat(mixedSystems(t), completingSystems(t), noSuchSystems(t)) {
		y, code := impl.FillSystem(x)
		if code != impl.ErrNone || !impl.IsSystem(y) || y.Points != x.Points {
			t.Errorf("FillSystem(%v) = %v, %d", x, y, code)
		}
		checkHas(t, "a filled system", y, x)
		stuck, code := impl.IsStuck(y)
		wantValue(t, "IsStuck of a filled system", stuck, code, true, impl.ErrNone)
		again, code := impl.FillSystem(y)
		wantSystem(t, "FillSystem of a filled system", again, code, y, impl.ErrNone)
		stuck, code = impl.IsStuck(x)
		wantValue(t, "IsStuck", stuck, code, sameSystem(x, y), impl.ErrNone)
		free, code := impl.FreeBlocks(x)
		if code != impl.ErrNone || len(lessBlocks(lessBlocks(y.Blocks, x.Blocks), free)) > 0 {
			t.Errorf("FillSystem(%v) = %v; only %v can be put in", x, y, free)
		}
		if len(free) > 0 {
			more, _ := impl.PutBlock(x, free[0])
			step, code := impl.FillSystem(more)
			wantSystem(t, "FillSystem behind its first block", step, code, y, impl.ErrNone)
		}
	}
}

// TestPromise8Stuck checks that stuck systems are full, or have no completion.
func TestPromise8Stuck(t *testing.T) {
	stuckOnes := 0
	for _, x := range completingSystems(t) {
		y, code := impl.FillSystem(x)
		if code != impl.ErrNone {
			t.Fatalf("FillSystem(%v): code %d", x, code)
		}
		full, _ := impl.IsFull(y)
		n, code := impl.CountCompletions(y)
		wantValue(t, "CountCompletions of a stuck system", n == 1, code, full, impl.ErrNone)
		if full {
			wantAll(t, "a full system", fullsFor(t, y), impl.ErrNone, []impl.System{y}, impl.ErrNone)
		} else {
			stuckOnes++
			wantValue(t, "CountCompletions of a system that is stuck and not full", n, code, 0, impl.ErrNone)
		}
	}
	if stuckOnes < 100 {
		t.Errorf("samples: stuck and not full %d", stuckOnes)
	}
}

// TestPromise8LeaveDegrees compares leave degrees with the pairs that are left, and with the degrees: the
// blocks with a point have two other points each.
func TestPromise8LeaveDegrees(t *testing.T) {
	for _, x := range slices.Concat(mixedSystems(t), completingSystems(t), noSuchSystems(t)) {
		leave, code := impl.LeaveDegrees(x)
		left, _ := impl.PairsLeft(x)
		degrees, _ := impl.DegreesOf(x)
		if code != impl.ErrNone || int64(len(leave)) != x.Points || len(degrees) != len(leave) {
			t.Fatalf("LeaveDegrees(%v) = %v, %d", x, leave, code)
		}
		for p, degree := range leave {
			count := int64(0)
			for _, pair := range left {
				if slices.Contains(pair, int64(p)) {
					count++
				}
			}
			if degree != count || degree != x.Points-1-2*degrees[p] {
				t.Errorf("LeaveDegrees(%v)[%d] = %d; the pairs left are %v", x, p, degree, left)
			}
		}
		if n, code := impl.MissingNumber(x); code == impl.ErrNone {
			wantValue(t, "the leave degrees together", sumOf(leave), impl.ErrNone, 6*n, impl.ErrNone)
		}
	}
}

// checkFixes checks that a part of y has y as its only completion.
func checkFixes(t *testing.T, y, part impl.System) {
	t.Helper()
	checkHas(t, "a part that fixes", y, part)
	fixes, code := impl.Fixes(part)
	wantValue(t, "Fixes of a part that fixes", fixes, code, true, impl.ErrNone)
	wantAll(t, "a part that fixes", fullsFor(t, part), impl.ErrNone, []impl.System{y}, impl.ErrNone)
}

// checkLeast checks that a least part fixes y, and that none of as many blocks before it does, nor one of
// fewer blocks.
func checkLeast(t *testing.T, y impl.System) {
	t.Helper()
	least, code := impl.LeastFixing(y)
	if code != impl.ErrNone {
		t.Errorf("LeastFixing(%v): code %d", y, code)
		return
	}
	checkFixes(t, y, onlyBlocks(y, least))
	for _, set := range subsetsOf(int64(len(y.Blocks))) {
		if len(set) > len(least) || len(set) == len(least) && slices.Compare(set, least) >= 0 {
			break
		}
		fixes, code := impl.Fixes(onlyBlocks(y, set))
		wantValue(t, "Fixes of a part before the least one", fixes, code, false, impl.ErrNone)
	}
}

func TestPromise8LeastFixing(t *testing.T) {
	random := randomNumbers(183)
	list := []impl.System{named(t, "single"), named(t, "affine"), systemsOf(t, 9)[0], systemsOf(t, 9)[839]}
	for range 8 {
		list = append(list, systemsOf(t, 9)[random.below(840)])
	}
	for _, y := range slices.Concat(list, systemsOf(t, 7)) {
		checkLeast(t, y)
	}
}

// TestPromise8Parts takes all parts of fano and of affine: what has all blocks of a part that fixes it fixes
// it too, and what fixes a system is no part of another one.
func TestPromise8Parts(t *testing.T) {
	for _, name := range []string{"single", "fano", "affine"} {
		y := named(t, name)
		fixing := 0
		for _, set := range subsetsOf(int64(len(y.Blocks))) {
			part := onlyBlocks(y, set)
			n, code := impl.CountCompletions(part)
			if n < 1 || code != impl.ErrNone {
				t.Errorf("CountCompletions(%v) = %d, %d", part, n, code)
			}
			fixes, code := impl.Fixes(part)
			wantValue(t, "Fixes of a part of "+name, fixes, code, n == 1, impl.ErrNone)
			if !fixes {
				continue
			}
			fixing++
			checkFixes(t, y, part)
			for i := range y.Blocks {
				if !slices.Contains(set, int64(i)) {
					checkFixes(t, y, withBlock(part, y.Blocks[i]))
				}
			}
		}
		least, _ := impl.LeastFixing(y)
		if fixing < 1 || len(least) >= len(y.Blocks) {
			t.Errorf("%s: %d parts fix it, the least one is %v", name, fixing, least)
		}
	}
}

// openCounts returns all that is counted of a system and its completions.
func openCounts(x impl.System) []int64 {
	degrees, code := impl.LeaveDegrees(x)
	slices.Sort(degrees)
	counts := append(degrees, code)
	n, code := impl.MissingNumber(x)
	counts = append(counts, n, code)
	n, code = impl.CountCompletions(x)
	counts = append(counts, n, code)
	list, code := impl.CompletionsOf(x)
	counts = append(counts, int64(len(list)), code)
	_, code = impl.FirstCompletion(x)
	least, leastCode := impl.LeastFixing(x)
	counts = append(counts, code, int64(len(least)), leastCode)
	for _, ask := range []func(impl.System) (bool, int64){impl.IsStuck, impl.Fixes} {
		yes, code := ask(x)
		said := int64(0)
		if yes {
			said = 1
		}
		counts = append(counts, said, code)
	}
	return counts
}

// TestCompletionsRenumbered tests the main guarantee: what is counted stays if points are renumbered, and
// completions are those of the system, with their points renumbered.
func TestCompletionsRenumbered(t *testing.T) {
	random := randomNumbers(184)
	for _, x := range slices.Concat(completingSystems(t), noSuchSystems(t)) {
		p := random.order(int(x.Points))
		y, code := impl.RenumberSystem(x, p)
		if code != impl.ErrNone {
			t.Fatalf("RenumberSystem: code %d", code)
		}
		wantList(t, "counts of completions, renumbered", openCounts(y), impl.ErrNone, openCounts(x), impl.ErrNone)
		degrees, _ := impl.LeaveDegrees(x)
		images, _ := impl.LeaveDegrees(y)
		for a, b := range p {
			wantValue(t, "a leave degree, renumbered", images[b], impl.ErrNone, degrees[a], impl.ErrNone)
		}
		list, code := impl.CompletionsOf(x)
		other, otherCode := impl.CompletionsOf(y)
		var moved []impl.System
		for _, z := range list {
			image, _ := impl.RenumberSystem(z, p)
			moved = append(moved, image)
		}
		slices.SortFunc(moved, compareSystems)
		wantAll(t, "a system, renumbered", other, otherCode, moved, code)
	}
}
