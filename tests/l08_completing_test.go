package tests

import (
	"runtime"
	"slices"
	"sync"
	"testing"

	"loop.example/g01355/impl"
)

// TestSampleCompleting checks that the samples have what the tests of completions need.
func TestSampleCompleting(t *testing.T) {
	if impl.MaxMissing != 12 || impl.MaxCompletions != 200 {
		t.Errorf("MaxMissing %d, MaxCompletions %d", impl.MaxMissing, impl.MaxCompletions)
	}
	for v, want := range map[int64]int{3: 1, 7: 30, 9: 840} {
		if n := len(systemsOf(t, v)); n != want {
			t.Errorf("samples: %d systems of %d", n, v)
		}
	}
	points, missing, counts := map[int]bool{}, map[int]bool{}, map[int]bool{}
	stuck, blocked, evenBlocked := 0, 0, 0
	for _, x := range completingSystems(t) {
		n, _ := plainMissing(x)
		count := len(plainCompletions(x))
		points[int(x.Points)], missing[int(n)], counts[count] = true, true, true
		switch {
		case count == 0 && plainIsStuck(x):
			stuck++
		case count == 0:
			blocked++
			isOdd := func(d int64) bool { return d%2 != 0 }
			if !slices.ContainsFunc(plainLeaveDegrees(x), isOdd) {
				evenBlocked++
			}
		}
	}
	wantKeys(t, "points", points, 3, 7, 9, 13, 15)
	wantKeys(t, "missing blocks", missing, 0, 1, 2, 3, 4, 5, 6, 7, 8, 9, 10, 11, 12)
	wantKeys(t, "completions", counts, 0, 1, 2, 3, 4, 6, 8, 12, 16, 24, 30, 60, 84, 120, 840)
	if stuck < 20 || blocked < 20 || evenBlocked < 20 {
		t.Errorf("samples: stuck and not full %d, without a completion %d, all leave degrees even %d", stuck, blocked, evenBlocked)
	}
}

func TestOpenSystems(t *testing.T) {
	for _, x := range slices.Concat(mixedSystems(t), completingSystems(t), noSuchSystems(t)) {
		wantOpen(t, "a system", x, plainLeaveDegrees(x), plainIsStuck(x), plainFilled(x), impl.ErrNone)
	}
}

func TestOpenSystemsByHand(t *testing.T) {
	fifteen := namedTexts()["projective15"]
	sevens := []string{
		"7:abc,ade,afg,bdf,beg,cdg,cef", "8:abc,ade,afg,bdf,beg,cdg,cef", "9:abc,ade,afg,ahi,bdf,beg,cdg,cef",
		"10:abc,ade,afg,ahi,bdf,beg,bhj,cdg,cef,cij",
	}
	for _, c := range []struct {
		text    string
		degrees []int64
		stuck   bool
		filled  string
	}{
		{"3:", []int64{2, 2, 2}, false, "3:abc"},
		{"3:abc", []int64{0, 0, 0}, true, "3:abc"},
		{"4:", []int64{3, 3, 3, 3}, false, "4:abc"},
		{"4:abc", []int64{1, 1, 1, 3}, true, "4:abc"},
		{"4:bcd", []int64{3, 1, 1, 1}, true, "4:bcd"},
		{"5:", []int64{4, 4, 4, 4, 4}, false, "5:abc,ade"},
		{"5:cde", []int64{4, 4, 2, 2, 2}, false, "5:abc,cde"},
		{"5:abc,ade", []int64{0, 2, 2, 2, 2}, true, "5:abc,ade"},
		{"6:", []int64{5, 5, 5, 5, 5, 5}, false, "6:abc,ade,bdf,cef"},
		{"6:abc,def", []int64{3, 3, 3, 3, 3, 3}, true, "6:abc,def"},
		{"6:abc,ade,bdf,cef", []int64{1, 1, 1, 1, 1, 1}, true, "6:abc,ade,bdf,cef"},
		{"7:", []int64{6, 6, 6, 6, 6, 6, 6}, false, sevens[0]},
		{"7:efg", []int64{6, 6, 6, 6, 4, 4, 4}, false, "7:abc,ade,bdf,cdg,efg"},
		{"7:abc,def", []int64{4, 4, 4, 4, 4, 4, 6}, false, "7:abc,adg,beg,cfg,def"},
		{"7:abc,adg,beg,cfg,def", []int64{2, 2, 2, 2, 2, 2, 0}, true, "7:abc,adg,beg,cfg,def"},
		{"7:abc,ade", []int64{2, 4, 4, 4, 4, 6, 6}, false, sevens[0]},
		{"7:abd,acg,aef,bce,bfg,cdf", []int64{0, 0, 0, 2, 2, 0, 2}, false, "7:abd,acg,aef,bce,bfg,cdf,deg"},
		{"7:abd,acg,aef,bce,bfg,cdf,deg", make([]int64, 7), true, "7:abd,acg,aef,bce,bfg,cdf,deg"},
		{"8:", slices.Repeat([]int64{7}, 8), false, sevens[1]},
		{sevens[1], []int64{1, 1, 1, 1, 1, 1, 1, 7}, true, sevens[1]},
		{"9:", slices.Repeat([]int64{8}, 9), false, sevens[2]},
		{sevens[2], []int64{0, 2, 2, 2, 2, 2, 2, 6, 6}, true, sevens[2]},
		{"10:", slices.Repeat([]int64{9}, 10), false, sevens[3]},
		{"14:", slices.Repeat([]int64{13}, 14), false, "14:abc,ade,afg,ahi,ajk,alm,bdf,beg,bhj,bik,bln,cdg,cef,chk,cij,cmn,dhl,dim,djn,ehm,eil,ekn,fhn,fjl,fkm,gin,gjm,gkl"},
		{"15:", slices.Repeat([]int64{14}, 15), false, fifteen},
		{fifteen, make([]int64, 15), true, fifteen},
	} {
		wantOpen(t, c.text, system(t, c.text), c.degrees, c.stuck, system(t, c.filled), impl.ErrNone)
	}
}

func TestMissingNumber(t *testing.T) {
	for _, x := range slices.Concat(mixedSystems(t), completingSystems(t), noSuchSystems(t)) {
		n, code := plainMissing(x)
		wantMissing(t, "a system", x, n, code)
	}
	full := map[int64]int64{3: 1, 7: 7, 9: 12, 13: 26, 15: 35}
	for v := int64(3); v <= impl.MaxPoints; v++ {
		x := impl.System{Points: v}
		if full[v] == 0 {
			wantMissing(t, "no blocks", x, 0, impl.ErrState)
			wantMissing(t, "a block", withBlock(x, impl.Block{0, 1, 2}), 0, impl.ErrState)
			continue
		}
		wantMissing(t, "no blocks", x, full[v], impl.ErrNone)
		wantMissing(t, "a block", withBlock(x, impl.Block{0, 1, 2}), full[v]-1, impl.ErrNone)
	}
	for _, x := range kindsOfFulls(t) {
		wantMissing(t, "a full system", x, 0, impl.ErrNone)
	}
	wantMissing(t, "stuck", system(t, "7:abc,adg,beg,cfg,def"), 2, impl.ErrNone)
}

func TestCompletions(t *testing.T) {
	for _, x := range completingSystems(t) {
		wantCompletions(t, "a system", x, plainCompletions(x))
	}
}

// TestCompletionsOfParts takes all parts of full systems of 3, 7 and 9 points, and all blocks of a system:
// their completions are those of all full systems that have them.
func TestCompletionsOfParts(t *testing.T) {
	for _, name := range []string{"single", "fano", "affine"} {
		x := named(t, name)
		for _, set := range subsetsOf(int64(len(x.Blocks))) {
			part := onlyBlocks(x, set)
			wantCompletions(t, "a part of "+name, part, systemsWith(systemsOf(t, x.Points), part))
		}
	}
}

// TestCompletionsOfSmall takes systems of 7 and 9 points that are no parts of full ones, or not known to be.
func TestCompletionsOfSmall(t *testing.T) {
	random := randomNumbers(85)
	none := 0
	for _, v := range []int64{7, 9} {
		for range 300 {
			x := withMore(impl.System{Points: v}, &random)
			x = withoutSome(x, random.below(len(x.Blocks)), &random)
			want := systemsWith(systemsOf(t, v), x)
			wantCompletions(t, "any system", x, want)
			if len(want) == 0 {
				none++
			}
		}
	}
	if none < 100 {
		t.Errorf("samples: without a completion %d", none)
	}
}

func TestCompletionsByHand(t *testing.T) {
	fano := namedTexts()["fano"]
	for _, c := range []struct {
		text string
		want []string
	}{
		{"3:", []string{"3:abc"}},
		{"3:abc", []string{"3:abc"}},
		{fano, []string{fano}},
		{"7:abd,acg,aef,bce,bfg,cdf", []string{fano}},
		{"7:abd,acg,bce", []string{fano}},
		{"7:abd,acg,aef", []string{fano, "7:abd,acg,aef,bcf,beg,cde,dfg"}},
		{"7:aef,bfg,cdf,deg", []string{fano}},
		{"7:aef,bfg,cdf", []string{"7:abc,adg,aef,bde,bfg,cdf,ceg", fano}},
		{"7:abc,ade", []string{"7:abc,ade,afg,bdf,beg,cdg,cef", "7:abc,ade,afg,bdg,bef,cdf,ceg"}},
		{"7:abc,def", nil},
		{"7:abc,adg,beg,cfg,def", nil},
		{"9:abc,ade,afg,ahi,bdf,beg,cdg,cef", nil},
		{namedTexts()["affine"], []string{namedTexts()["affine"]}},
		{"9:abc,adg,beh,def", []string{namedTexts()["affine"]}},
		{namedTexts()["cyclic13"], []string{namedTexts()["cyclic13"]}},
		{namedTexts()["projective15"], []string{namedTexts()["projective15"]}},
		{"13:abc,ade,afg,ahi,ajk,alm,bdf,beg,bhj,bik,cdg,cef,chk,cij,dhl,dim,ehm,eil,fjl,fkm,gjm,gkl", nil},
	} {
		var want []impl.System
		for _, text := range c.want {
			want = append(want, system(t, text))
		}
		wantCompletions(t, c.text, system(t, c.text), want)
	}
}

// TestCountCompletionsByHand has numbers that are known: all full systems of few points, and these divided
// among the blocks with a pair.
func TestCountCompletionsByHand(t *testing.T) {
	for _, c := range []struct {
		what string
		x    impl.System
		want int64
	}{
		{"3 points without blocks", impl.System{Points: 3}, 1},
		{"7 points without blocks", impl.System{Points: 7}, 30},
		{"7 points and a block", system(t, "7:abc"), 6},
		{"7 points and another block", system(t, "7:efg"), 6},
		{"7 points and two blocks", system(t, "7:abc,cde"), 2},
		{"7 points and three blocks at a point", system(t, "7:abc,ade,afg"), 2},
		{"7 points and a triangle", system(t, "7:abc,ade,bdf"), 1},
		{"9 points without blocks", impl.System{Points: 9}, 840},
		{"9 points and a block", system(t, "9:abc"), 120},
		{"9 points and the last block", system(t, "9:ghi"), 120},
		{"9 points and two blocks that meet", system(t, "9:abc,ade"), 24},
		{"9 points and two blocks that do not meet", system(t, "9:abc,def"), 12},
		{"9 points and a class", system(t, "9:abc,def,ghi"), 12},
		{"15 points without a part like fano", withoutSubsystem(t), 30},
	} {
		n, code := impl.CountCompletions(c.x)
		wantValue(t, "CountCompletions of "+c.what, n, code, c.want, impl.ErrNone)
		yes, code := impl.Fixes(c.x)
		wantValue(t, "Fixes of "+c.what, yes, code, c.want == 1, impl.ErrNone)
	}
}

// TestMaxMissing takes systems with just MaxMissing missing blocks, and with one more.
func TestMaxMissing(t *testing.T) {
	random := randomNumbers(86)
	for _, x := range kindsOfFulls(t) {
		if len(x.Blocks) <= 12 {
			continue
		}
		lists := [][]int64{identity(int64(len(x.Blocks))), random.order(len(x.Blocks)), random.order(len(x.Blocks))}
		for _, list := range lists {
			most, more := slices.Clone(list[12:]), slices.Clone(list[13:])
			slices.Sort(most)
			slices.Sort(more)
			wantCompletions(t, "12 missing", onlyBlocks(x, most), plainCompletions(onlyBlocks(x, most)))
			wantMissing(t, "12 missing", onlyBlocks(x, most), 12, impl.ErrNone)
			wantNoCompletions(t, "13 missing", onlyBlocks(x, more), impl.ErrLimit)
			wantMissing(t, "13 missing", onlyBlocks(x, more), 13, impl.ErrNone)
		}
	}
	for _, x := range []impl.System{{Points: 13}, {Points: 15}, system(t, "13:abc"), system(t, "15:mno")} {
		wantNoCompletions(t, "far more than 12 missing", x, impl.ErrLimit)
	}
	wantCompletions(t, "9 points, all missing", impl.System{Points: 9}, systemsOf(t, 9))
}

// TestMaxCompletions takes the one system that is known to have more than MaxCompletions completions, 9
// points without blocks, and those that are known to have the most below it, 9 points and a block. (A
// search for parts of full systems of 13 and 15 points found none with more than 84.)
func TestMaxCompletions(t *testing.T) {
	list, code := impl.CompletionsOf(impl.System{Points: 9})
	wantAll(t, "9 points without blocks", list, code, nil, impl.ErrLimit)
	first, code := impl.FirstCompletion(impl.System{Points: 9})
	wantSystem(t, "FirstCompletion of 9 points without blocks", first, code, system(t, "9:abc,ade,afg,ahi,bdf,beh,bgi,cdi,ceg,cfh,dgh,efi"), impl.ErrNone)
	n, code := impl.CountCompletions(impl.System{Points: 9})
	wantValue(t, "CountCompletions of 9 points without blocks", n, code, 840, impl.ErrNone)
	for _, b := range triples(9) {
		x := impl.System{Points: 9, Blocks: []impl.Block{b}}
		list, code := impl.CompletionsOf(x)
		if len(list) != 120 {
			t.Errorf("CompletionsOf(%v): %d systems", x, len(list))
		}
		wantAll(t, "9 points and a block", list, code, systemsWith(systemsOf(t, 9), x), impl.ErrNone)
	}
}

// TestCompletionsAreFound takes many systems of 13 and 15 points with MaxMissing missing blocks: the
// functions return for all of them.
func TestCompletionsAreFound(t *testing.T) {
	random := randomNumbers(87)
	for _, x := range slices.Concat(kindsOfFulls(t)[3:], fulls(t)) {
		if x.Points < 13 {
			continue
		}
		for range 8 {
			y := withoutSome(x, 12, &random)
			wantCompletions(t, "12 missing", y, plainCompletions(y))
		}
		y := withMore(withoutSome(x, 12+random.below(8), &random), &random)
		if n, _ := plainMissing(y); n <= 12 {
			y = withoutSome(y, int(12-n), &random)
			wantCompletions(t, "12 missing, others put in", y, plainCompletions(y))
		}
	}
}

func TestLeastFixing(t *testing.T) {
	random := randomNumbers(88)
	wantFixing(t, "single", named(t, "single"), plainFixing(t, named(t, "single")), impl.ErrNone)
	for _, y := range systemsOf(t, 7) {
		wantFixing(t, "a system of 7", y, plainFixing(t, y), impl.ErrNone)
	}
	wantFixing(t, "affine", named(t, "affine"), plainFixing(t, named(t, "affine")), impl.ErrNone)
	for range 12 {
		y := systemsOf(t, 9)[random.below(840)]
		wantFixing(t, "a system of 9", y, plainFixing(t, y), impl.ErrNone)
	}
}

// TestLeastFixingByHand has the numbers of blocks that are known: three for fano, four for affine. Two
// blocks of fano leave two ways, and so do the three at a point; a triangle leaves one.
func TestLeastFixingByHand(t *testing.T) {
	wantFixing(t, "single", named(t, "single"), nil, impl.ErrNone)
	wantFixing(t, "fano", named(t, "fano"), []int64{0, 1, 3}, impl.ErrNone)
	wantFixing(t, "the first system of 7", system(t, "7:abc,ade,afg,bdf,beg,cdg,cef"), []int64{0, 1, 3}, impl.ErrNone)
	wantFixing(t, "affine", named(t, "affine"), []int64{0, 1, 5, 10}, impl.ErrNone)
	for _, x := range kindsOfFulls(t) {
		if x.Points > 9 {
			wantFixing(t, "more than 9 points", x, nil, impl.ErrLimit)
		}
	}
}

func TestCompletingInvalidSystems(t *testing.T) {
	for name, x := range invalidSystems() {
		wantOpen(t, name, x, nil, false, impl.System{}, impl.ErrInvalid)
		wantMissing(t, name, x, 0, impl.ErrInvalid)
		wantNoCompletions(t, name, x, impl.ErrInvalid)
		wantFixing(t, name, x, nil, impl.ErrInvalid)
	}
	// Invalid ones with other numbers of points, and with many missing blocks: ErrInvalid comes first.
	for v := int64(3); v <= impl.MaxPoints; v++ {
		x := impl.System{Points: v, Blocks: []impl.Block{{0, 1, v}}}
		wantOpen(t, "a point too many", x, nil, false, impl.System{}, impl.ErrInvalid)
		wantMissing(t, "a point too many", x, 0, impl.ErrInvalid)
		wantNoCompletions(t, "a point too many", x, impl.ErrInvalid)
		wantFixing(t, "a point too many", x, nil, impl.ErrInvalid)
	}
}

// TestCompletingNoSuchSystems has systems with another number of points, for which far more blocks than
// MaxMissing are not there: ErrState comes before ErrLimit.
func TestCompletingNoSuchSystems(t *testing.T) {
	states, limits := 0, 0
	for _, x := range noSuchSystems(t) {
		code := completingCode(x)
		wantNoCompletions(t, "no such system", x, code)
		switch code {
		case impl.ErrState:
			states++
		case impl.ErrLimit:
			limits++
		}
	}
	if states < 40 || limits < 20 {
		t.Errorf("samples: with other points %d, with too many missing blocks %d", states, limits)
	}
	for _, v := range []int64{4, 5, 6, 8, 10, 11, 12, 14} {
		wantNoCompletions(t, "another number of points", impl.System{Points: v}, impl.ErrState)
		filled := plainFilled(impl.System{Points: v})
		wantNoCompletions(t, "another number of points, stuck", filled, impl.ErrState)
	}
}

// TestLeastFixingOfOthers takes what is not full, with few and with many points: ErrState comes before
// ErrLimit, also if more than MaxMissing blocks are missing.
func TestLeastFixingOfOthers(t *testing.T) {
	for _, y := range slices.Concat(notFull(t), noSuchSystems(t), []impl.System{{Points: 3}, {Points: 7}, {Points: 9}, {Points: 13}, {Points: 15}}) {
		wantFixing(t, "what is not full", y, nil, impl.ErrState)
	}
	for _, x := range kindsOfFulls(t) {
		wantFixing(t, "without the first block", impl.System{Points: x.Points, Blocks: x.Blocks[1:]}, nil, impl.ErrState)
		wantFixing(t, "without the last block", impl.System{Points: x.Points, Blocks: x.Blocks[:len(x.Blocks)-1]}, nil, impl.ErrState)
		if x.Points < impl.MaxPoints {
			wantFixing(t, "a point more", onMore(x, x.Points+1), nil, impl.ErrState)
		}
	}
}

// callsOfCompleting calls all functions of the chapter.
func callsOfCompleting(x impl.System) {
	impl.LeaveDegrees(x)
	impl.IsStuck(x)
	impl.FillSystem(x)
	impl.MissingNumber(x)
	impl.FirstCompletion(x)
	impl.CountCompletions(x)
	impl.CompletionsOf(x)
	impl.Fixes(x)
	impl.LeastFixing(x)
}

// TestCompletingAgain calls functions twice, with the first results overwritten: nothing is kept.
func TestCompletingAgain(t *testing.T) {
	x, part := named(t, "fano"), system(t, "7:abc,ade")
	want := []impl.System{system(t, "7:abc,ade,afg,bdf,beg,cdg,cef"), system(t, "7:abc,ade,afg,bdg,bef,cdf,ceg")}
	for range 2 {
		wantOpen(t, "two blocks", part, []int64{2, 4, 4, 4, 4, 6, 6}, false, want[0], impl.ErrNone)
		wantOpen(t, "fano", x, make([]int64, 7), true, x, impl.ErrNone)
		wantCompletions(t, "two blocks", part, want)
		wantCompletions(t, "fano", x, []impl.System{x})
		wantFixing(t, "fano", x, []int64{0, 1, 3}, impl.ErrNone)
	}
}

// TestCompletingLeavesNothing checks that no goroutine goes on behind the calls.
func TestCompletingLeavesNothing(t *testing.T) {
	before := runtime.NumGoroutine()
	for _, x := range []impl.System{named(t, "single"), named(t, "fano"), named(t, "affine"), named(t, "projective15"), withoutSubsystem(t), {Points: 7}, {Points: 9}, {Points: 15}, {}} {
		for range 5 {
			callsOfCompleting(x)
		}
	}
	wantNoGoroutines(t, before)
}

// TestCompletingAtOnce asks for completions of one system from several sides at once: nothing is kept, and
// nothing is written behind the blocks of an argument.
func TestCompletingAtOnce(t *testing.T) {
	plain := withoutSubsystem(t)
	want := plainCompletions(plain)
	x, guard := guardSystem(plain)
	var group sync.WaitGroup
	for range 8 {
		group.Go(func() {
			n, code := impl.CountCompletions(x)
			wantValue(t, "CountCompletions at once", n, code, 30, impl.ErrNone)
			list, code := impl.CompletionsOf(x)
			wantAll(t, "a system at once", list, code, want, impl.ErrNone)
			y, code := impl.FirstCompletion(x)
			wantSystem(t, "FirstCompletion at once", y, code, want[0], impl.ErrNone)
			y, code = impl.FillSystem(x)
			wantSystem(t, "FillSystem at once", y, code, plainFilled(plain), impl.ErrNone)
			least, code := impl.LeastFixing(named(t, "affine"))
			wantList(t, "LeastFixing at once", least, code, []int64{0, 1, 5, 10}, impl.ErrNone)
		})
	}
	group.Wait()
	guard.check(t, "completions at once")
}
