package tests

import (
	"runtime"
	"slices"
	"sync"
	"testing"

	"loop.example/g01355/impl"
)

// TestSampleParts checks that the samples have what the tests of parts and colourings need.
func TestSampleParts(t *testing.T) {
	if impl.MaxColours != 6 {
		t.Errorf("MaxColours = %d", impl.MaxColours)
	}
	points, subsystems, most, least, numbers, strict := map[int]bool{}, map[int]bool{}, map[int]bool{}, map[int]bool{}, map[int]bool{}, map[int]bool{}
	notOthers := 0
	for _, x := range partSystems(t) {
		p := partTablesOf(x)
		points[int(x.Points)] = true
		for _, set := range p.list(p.isSubsystem) {
			subsystems[len(set)] = true
		}
		greatest, meeting := lastOfSize(p.list(p.isIndependent)), p.list(p.meetsAll)[0]
		most[len(greatest)], least[len(meeting)] = true, true
		if !slices.Equal(othersThan(x.Points, greatest), meeting) {
			notOthers++
		}
		for k := int64(impl.MaxColours); k >= 1; k-- {
			if cutFirst(x, k, allowed, 1) == nil {
				numbers[int(k)+1] = true
				break
			}
			strict[int(k)] = strict[int(k)] || cutFirst(x, k, allowedStrictly, k) != nil
		}
	}
	wantKeys(t, "points", points, 3, 4, 5, 6, 7, 8, 9, 10, 11, 12, 13, 14, 15)
	wantKeys(t, "points of a subsystem", subsystems, 3, 7, 9, 13, 15)
	wantKeys(t, "points of a greatest independent set", most, 2, 3, 4, 5, 6, 7, 8, 9, 15)
	wantKeys(t, "points of a least set that meets all blocks", least, 0, 1, 2, 3, 4, 5, 6, 7, 8, 9)
	wantKeys(t, "as its colour number", numbers, 2, 3)
	wantKeys(t, "colours in a strict colouring", strict, 2, 3, 4, 5, 6)
	if notOthers < 50 {
		t.Errorf("samples: the first greatest independent set has not the others of the first set that meets all blocks in %d of them", notOthers)
	}
}

// lastOfSize returns the first one of the greatest of sets that are in order.
func lastOfSize(sets [][]int64) []int64 {
	most := len(sets[len(sets)-1])
	return sets[slices.IndexFunc(sets, func(set []int64) bool { return len(set) == most })]
}

func TestSetsOfPoints(t *testing.T) {
	random := randomNumbers(73)
	for _, x := range partSystems(t) {
		p := partTablesOf(x)
		closed := p.list(p.isClosed)
		for _, set := range setsToTry(x, &random) {
			wantSetFacts(t, "any set", x, set, p.isClosed(set), p.isIndependent(set), plainSpan(closed, set), impl.ErrNone)
		}
	}
}

// TestAllSetsOfPoints takes all sets of systems of few points, and all closed ones of greater systems.
func TestAllSetsOfPoints(t *testing.T) {
	changed := slices.DeleteFunc(changedSystems(t), func(x impl.System) bool { return x.Points != 9 })
	for _, x := range append(changed, named(t, "affine"), named(t, "fano"), fanoAnd(t, 9)) {
		p := partTablesOf(x)
		closed := p.list(p.isClosed)
		for _, set := range subsetsOf(x.Points) {
			wantSetFacts(t, "any set", x, set, p.isClosed(set), p.isIndependent(set), plainSpan(closed, set), impl.ErrNone)
		}
	}
	for _, x := range []impl.System{named(t, "projective15"), named(t, "cyclic15"), named(t, "cyclic13"), thirteen(t), fanoAnd(t, 10)} {
		p := partTablesOf(x)
		for _, set := range p.list(p.isClosed) {
			wantSetFacts(t, "a closed set", x, set, true, p.isIndependent(set), set, impl.ErrNone)
		}
	}
}

func TestSetsOfPointsByHand(t *testing.T) {
	fano, affine, projective, chain := named(t, "fano"), named(t, "affine"), named(t, "projective15"), system(t, "15:abc,ade,bdf,cfg,ghi,jkl")
	for _, c := range []struct {
		what                string
		x                   impl.System
		set                 []int64
		closed, independent bool
		span                []int64
	}{
		{"the empty set", fano, nil, true, true, nil},
		{"the empty set, no blocks", impl.System{Points: 3}, []int64{}, true, true, nil},
		{"the empty set of 15 points", projective, nil, true, true, nil},
		{"the first point", fano, []int64{0}, true, true, []int64{0}},
		{"the last point", projective, []int64{14}, true, true, []int64{14}},
		{"a pair", fano, []int64{0, 1}, false, true, []int64{0, 1, 3}},
		{"the last pair", projective, []int64{13, 14}, false, true, []int64{0, 13, 14}},
		{"a pair that is left", system(t, "4:abc"), []int64{2, 3}, true, true, []int64{2, 3}},
		{"a pair of a block", system(t, "4:abc"), []int64{1, 2}, false, true, []int64{0, 1, 2}},
		{"a block", fano, []int64{0, 1, 3}, true, false, []int64{0, 1, 3}},
		{"the block of single", named(t, "single"), []int64{0, 1, 2}, true, false, []int64{0, 1, 2}},
		{"three points that are no block", fano, []int64{0, 1, 2}, false, true, []int64{0, 1, 2, 3, 4, 5, 6}},
		{"a block and a point", fano, []int64{0, 1, 2, 3}, false, false, []int64{0, 1, 2, 3, 4, 5, 6}},
		{"four points without a block", fano, []int64{0, 1, 2, 5}, false, true, []int64{0, 1, 2, 3, 4, 5, 6}},
		{"four points with a block", fano, []int64{0, 1, 2, 4}, false, false, []int64{0, 1, 2, 3, 4, 5, 6}},
		{"all points", fano, identity(7), true, false, identity(7)},
		{"all points without blocks", impl.System{Points: 15}, identity(15), true, true, identity(15)},
		{"any points without blocks", impl.System{Points: 15}, []int64{0, 7, 14}, true, true, []int64{0, 7, 14}},
		{"all points of three without blocks", impl.System{Points: 3}, identity(3), true, true, identity(3)},
		{"a part like fano", projective, []int64{0, 1, 3}, false, true, []int64{0, 1, 2, 3, 4, 5, 6}},
		{"another one", projective, []int64{0, 7, 14}, false, true, []int64{0, 5, 6, 7, 8, 13, 14}},
		{"more than a part like fano", projective, []int64{0, 1, 3, 7}, false, true, identity(15)},
		{"a triangle of affine", affine, []int64{0, 1, 3}, false, true, identity(9)},
		{"fano of 15 points", fanoAnd(t, 15), []int64{1, 5, 6}, true, false, []int64{1, 5, 6}},
		{"fano and two points", fanoAnd(t, 15), []int64{0, 1, 2, 10, 14}, false, true, []int64{0, 1, 2, 3, 4, 5, 6, 10, 14}},
		{"a span in many steps", chain, []int64{0, 1, 3, 7}, false, true, []int64{0, 1, 2, 3, 4, 5, 6, 7, 8}},
		{"a span in fewer steps", chain, []int64{0, 1, 3}, false, true, []int64{0, 1, 2, 3, 4, 5, 6}},
		{"two spans", chain, []int64{0, 3, 10, 11}, false, true, []int64{0, 3, 4, 9, 10, 11}},
		{"two disjoint blocks", chain, []int64{0, 1, 2, 9, 10, 11}, true, false, []int64{0, 1, 2, 9, 10, 11}},
		{"a block and a pair that is left", chain, []int64{9, 10, 11, 12, 14}, true, false, []int64{9, 10, 11, 12, 14}},
		{"two blocks with a point in common", chain, []int64{0, 1, 2, 3, 4}, false, false, []int64{0, 1, 2, 3, 4, 5, 6}},
	} {
		wantSetFacts(t, c.what, c.x, c.set, c.closed, c.independent, c.span, impl.ErrNone)
	}
}

func TestSubsystemsAndIndependent(t *testing.T) {
	for _, plain := range partSystems(t) {
		x, guard := guardSystem(plain)
		p := partTablesOf(plain)
		rows, code := impl.Subsystems(x)
		want := p.list(p.isSubsystem)
		wantRows(t, "Subsystems", rows, code, want, impl.ErrNone)
		if len(rows) == len(want) {
			checkOwnMemory(t, "Subsystems", rows)
		}
		independent := p.list(p.isIndependent)
		list, code := impl.MostIndependent(x)
		wantList(t, "MostIndependent", list, code, lastOfSize(independent), impl.ErrNone)
		spoil(list, -9)
		list, code = impl.LeastMeeting(x)
		wantList(t, "LeastMeeting", list, code, p.list(p.meetsAll)[0], impl.ErrNone)
		spoil(list, -9)
		for k, want := range countBySize(independent) {
			n, code := impl.CountIndependent(x, int64(k))
			wantValue(t, "CountIndependent", n, code, want, impl.ErrNone)
		}
		guard.check(t, "subsystems and independent sets")
	}
}

func TestSubsystemsByHand(t *testing.T) {
	rows := func(x impl.System, more ...[]int64) [][]int64 {
		var list [][]int64
		for _, b := range x.Blocks {
			list = append(list, b[:])
		}
		return append(list, more...)
	}
	fano, affine, projective := named(t, "fano"), named(t, "affine"), named(t, "projective15")
	twice := system(t, "14:abd,acg,aef,bce,bfg,cdf,deg,hik,hjn,hlm,ijl,imn,jkm,kln")
	for _, c := range []struct {
		what string
		x    impl.System
		want [][]int64
	}{
		{"no blocks of 3 points", impl.System{Points: 3}, nil},
		{"no blocks of 15 points", impl.System{Points: 15}, nil},
		{"single", named(t, "single"), [][]int64{{0, 1, 2}}},
		{"a block of 4 points", system(t, "4:bcd"), [][]int64{{1, 2, 3}}},
		{"two blocks", system(t, "6:abf,cde"), [][]int64{{0, 1, 5}, {2, 3, 4}}},
		{"fano", fano, rows(fano, identity(7))},
		{"fano without the last block", impl.System{Points: 7, Blocks: fano.Blocks[:6]}, rows(impl.System{Points: 7, Blocks: fano.Blocks[:6]})},
		{"fano of 15 points", fanoAnd(t, 15), rows(fano, identity(7))},
		{"fano twice", twice, rows(twice, identity(7), []int64{7, 8, 9, 10, 11, 12, 13})},
		{"affine", affine, rows(affine, identity(9))},
		{"affine of 14 points", onMore(affine, 14), rows(affine, identity(9))},
		{"cyclic13", named(t, "cyclic13"), rows(named(t, "cyclic13"), identity(13))},
		{"a system without parts like fano", system(t, fifteenTexts()[1]), rows(system(t, fifteenTexts()[1]), identity(15))},
		{"projective15", projective, rows(projective,
			[]int64{0, 1, 2, 3, 4, 5, 6}, []int64{0, 1, 2, 7, 8, 9, 10}, []int64{0, 1, 2, 11, 12, 13, 14},
			[]int64{0, 3, 4, 7, 8, 11, 12}, []int64{0, 3, 4, 9, 10, 13, 14}, []int64{0, 5, 6, 7, 8, 13, 14},
			[]int64{0, 5, 6, 9, 10, 11, 12}, []int64{1, 3, 5, 7, 9, 11, 13}, []int64{1, 3, 5, 8, 10, 12, 14},
			[]int64{1, 4, 6, 7, 9, 12, 14}, []int64{1, 4, 6, 8, 10, 11, 13}, []int64{2, 3, 6, 7, 10, 11, 14},
			[]int64{2, 3, 6, 8, 9, 12, 13}, []int64{2, 4, 5, 7, 10, 12, 13}, []int64{2, 4, 5, 8, 9, 11, 14}, identity(15))},
	} {
		list, code := impl.Subsystems(c.x)
		wantRows(t, "Subsystems of "+c.what, list, code, c.want, impl.ErrNone)
	}
}

func TestIndependentByHand(t *testing.T) {
	binomials := []int64{1, 15, 105, 455, 1365, 3003, 5005, 6435, 6435, 5005, 3003, 1365, 455, 105, 15, 1}
	twice := system(t, "14:abd,acg,aef,bce,bfg,cdf,deg,hik,hjn,hlm,ijl,imn,jkm,kln")
	for _, c := range []struct {
		what        string
		x           impl.System
		counts      []int64
		most, least []int64
	}{
		{"no blocks of 3 points", impl.System{Points: 3}, []int64{1, 3, 3, 1}, identity(3), nil},
		{"no blocks of 15 points", impl.System{Points: 15}, binomials, identity(15), nil},
		{"single", named(t, "single"), []int64{1, 3, 3}, []int64{0, 1}, []int64{0}},
		{"a block of 4 points", system(t, "4:bcd"), []int64{1, 4, 6, 3}, []int64{0, 1, 2}, []int64{1}},
		{"two blocks that meet", system(t, "5:abc,ade"), []int64{1, 5, 10, 8, 1}, []int64{1, 2, 3, 4}, []int64{0}},
		{"two blocks that do not meet", system(t, "6:abf,cde"), []int64{1, 6, 15, 18, 9}, []int64{0, 1, 2, 3}, []int64{0, 2}},
		{"a Pasch", system(t, "6:abd,ace,bcf,def"), []int64{1, 6, 15, 16, 3}, []int64{0, 1, 4, 5}, []int64{0, 5}},
		{"fano", named(t, "fano"), []int64{1, 7, 21, 28, 7}, []int64{0, 1, 2, 5}, []int64{0, 1, 3}},
		{"fano of 8 points", fanoAnd(t, 8), []int64{1, 8, 28, 49, 35, 7}, []int64{0, 1, 2, 5, 7}, []int64{0, 1, 3}},
		{"fano twice", twice, []int64{1, 14, 91, 350, 847, 1274, 1078, 392, 49}, []int64{0, 1, 2, 5, 7, 8, 9, 12}, []int64{0, 1, 3, 7, 8, 10}},
		{"affine", named(t, "affine"), []int64{1, 9, 36, 72, 54}, []int64{0, 1, 3, 4}, []int64{0, 1, 2, 3, 6}},
		{"cyclic13", named(t, "cyclic13"), []int64{1, 13, 78, 260, 455, 312, 39}, []int64{0, 1, 2, 6, 9, 11}, []int64{0, 1, 2, 3, 4, 7, 9}},
		{"another system of 13 points", thirteen(t), []int64{1, 13, 78, 260, 455, 312, 34}, []int64{0, 1, 2, 6, 9, 11}, []int64{0, 1, 2, 3, 4, 7, 9}},
		{"projective15", named(t, "projective15"), []int64{1, 15, 105, 420, 945, 1008, 420, 120, 15}, []int64{0, 1, 3, 6, 7, 10, 12, 13}, identity(7)},
		{"a system of 60 automorphisms", system(t, fifteenTexts()[60]), []int64{1, 15, 105, 420, 945, 1008, 315}, []int64{0, 1, 2, 3, 4, 10}, identity(9)},
	} {
		for k := range int64(impl.MaxPoints + 1) {
			want := int64(0)
			if k < int64(len(c.counts)) {
				want = c.counts[k]
			}
			n, code := impl.CountIndependent(c.x, k)
			wantValue(t, "CountIndependent of "+c.what, n, code, want, impl.ErrNone)
		}
		list, code := impl.MostIndependent(c.x)
		wantList(t, "MostIndependent of "+c.what, list, code, c.most, impl.ErrNone)
		list, code = impl.LeastMeeting(c.x)
		wantList(t, "LeastMeeting of "+c.what, list, code, c.least, impl.ErrNone)
	}
}

// checkColours compares what is said of a list of colours with what the blocks say.
func checkColours(t *testing.T, x impl.System, k int64, colours []int64) {
	t.Helper()
	wantColours(t, "any colours", x, k, colours, plainKeeps(x, colours, allowed), plainKeeps(x, colours, allowedStrictly), impl.ErrNone)
}

// TestIsColouringAndIsStrict takes any lists, and first colourings with one colour changed.
func TestIsColouringAndIsStrict(t *testing.T) {
	random := randomNumbers(74)
	for _, x := range partSystems(t) {
		for k := int64(1); k <= impl.MaxColours; k++ {
			lists := [][]int64{make([]int64, x.Points), slices.Repeat([]int64{k - 1}, int(x.Points))}
			for range 6 {
				list := make([]int64, x.Points)
				for i := range list {
					list[i] = int64(random.below(int(k)))
				}
				lists = append(lists, list)
			}
			for _, first := range [][]int64{cutFirst(x, k, allowed, 1), cutFirst(x, k, allowedStrictly, k)} {
				if first == nil {
					continue
				}
				i := random.below(len(first))
				changed := slices.Clone(first)
				changed[i] = int64(random.below(int(k)))
				lists = append(lists, first, changed)
			}
			for _, list := range lists {
				checkColours(t, x, k, list)
			}
		}
	}
}

// TestAllColours takes all lists of few colours, or for few points.
func TestAllColours(t *testing.T) {
	for _, c := range []struct {
		x impl.System
		k int64
	}{
		{named(t, "single"), 6}, {impl.System{Points: 3}, 6}, {system(t, "4:acd"), 5}, {system(t, "5:abc,ade"), 4},
		{system(t, "6:abd,ace,bcf,def"), 3}, {named(t, "fano"), 3}, {named(t, "affine"), 2},
	} {
		plainLists(c.x.Points, c.k, func(colours []int64) bool {
			checkColours(t, c.x, c.k, colours)
			return !t.Failed()
		})
	}
}

func TestColoursByHand(t *testing.T) {
	fano, affine, single := named(t, "fano"), named(t, "affine"), named(t, "single")
	for _, c := range []struct {
		what              string
		x                 impl.System
		k                 int64
		colours           []int64
		colouring, strict bool
	}{
		{"one colour", single, 1, []int64{0, 0, 0}, false, false},
		{"one of two colours", single, 2, []int64{1, 1, 1}, false, false},
		{"two of two colours", single, 2, []int64{0, 1, 0}, true, true},
		{"two of three colours", single, 3, []int64{2, 2, 0}, true, true},
		{"the first other than the others", single, 2, []int64{1, 0, 0}, true, true},
		{"the last other than the others", single, 6, []int64{5, 5, 4}, true, true},
		{"three of three colours", single, 3, []int64{0, 1, 2}, true, false},
		{"three of six colours", single, 6, []int64{5, 0, 3}, true, false},
		{"one colour without blocks", impl.System{Points: 3}, 1, []int64{0, 0, 0}, true, true},
		{"three colours without blocks", impl.System{Points: 3}, 3, []int64{2, 0, 1}, true, true},
		{"15 points without blocks", impl.System{Points: 15}, 6, []int64{0, 1, 2, 3, 4, 5, 0, 1, 2, 3, 4, 5, 0, 1, 2}, true, true},
		{"fano with two colours", fano, 2, []int64{0, 0, 0, 1, 1, 1, 1}, false, false},
		{"fano with three colours", fano, 3, []int64{0, 0, 0, 1, 1, 0, 2}, true, true},
		{"fano with three of four colours", fano, 4, []int64{0, 0, 0, 1, 1, 0, 2}, true, true},
		{"fano, not strict", fano, 3, []int64{0, 1, 0, 2, 1, 0, 2}, true, false},
		{"fano, the last block in one colour", fano, 4, []int64{1, 2, 3, 0, 0, 3, 0}, false, false},
		{"fano, the first block in one colour", fano, 4, []int64{0, 0, 1, 0, 1, 2, 3}, false, false},
		{"affine by rows", affine, 3, []int64{0, 0, 0, 1, 1, 1, 2, 2, 2}, false, false},
		{"affine, strictly", affine, 3, []int64{0, 0, 1, 0, 0, 1, 1, 1, 2}, true, true},
		{"two blocks that share a point", system(t, "5:abc,ade"), 2, []int64{0, 1, 1, 1, 1}, true, true},
		{"only the last of two blocks is bad", system(t, "5:abc,ade"), 2, []int64{0, 1, 0, 0, 0}, false, false},
		{"only the last of two blocks is not strict", system(t, "5:abc,ade"), 3, []int64{0, 1, 0, 1, 2}, true, false},
		{"only the first of two blocks is not strict", system(t, "5:abc,ade"), 3, []int64{0, 1, 2, 0, 2}, true, false},
	} {
		wantColours(t, c.what, c.x, c.k, c.colours, c.colouring, c.strict, impl.ErrNone)
	}
}

func TestFirstColours(t *testing.T) {
	for _, x := range partSystems(t) {
		number := int64(0)
		for k := int64(impl.MaxColours); k >= 1; k-- {
			colouring, strict := cutFirst(x, k, allowed, 1), cutFirst(x, k, allowedStrictly, k)
			wantFirstColours(t, "a system", x, k, colouring, strict)
			if colouring != nil {
				number = k
			}
		}
		x, guard := guardSystem(x)
		n, code := impl.ColourNumber(x)
		wantValue(t, "ColourNumber", n, code, number, impl.ErrNone)
		guard.check(t, "ColourNumber")
	}
}

// TestFirstOfAllColours takes the first ones of all lists, none of which is cut short.
func TestFirstOfAllColours(t *testing.T) {
	most := map[int64]int64{3: 6, 4: 6, 5: 6, 6: 6, 7: 4, 8: 4, 9: 3}
	for _, x := range partSystems(t) {
		for k := int64(1); k <= most[x.Points]; k++ {
			wantFirstColours(t, "a system", x, k, plainFirst(x, k, allowed, 1), plainFirst(x, k, allowedStrictly, k))
		}
	}
}

func TestFirstColoursByHand(t *testing.T) {
	fano, affine, single, projective := named(t, "fano"), named(t, "affine"), named(t, "single"), named(t, "projective15")
	inFano, inAffine, inThirteen, inProjective := []int64{0, 0, 0, 1, 1, 0, 2}, []int64{0, 0, 1, 0, 0, 1, 1, 1, 2}, []int64{0, 0, 0, 0, 1, 1, 1, 1, 2, 0, 2, 2, 2}, []int64{0, 0, 1, 0, 1, 2, 0, 0, 1, 2, 0, 3, 0, 0, 1}
	zeros := make([]int64, 15)
	for _, c := range []struct {
		what              string
		x                 impl.System
		k                 int64
		colouring, strict []int64
	}{
		{"3 points without blocks, 1 colour", impl.System{Points: 3}, 1, zeros[:3], zeros[:3]},
		{"3 points without blocks, 2 colours", impl.System{Points: 3}, 2, zeros[:3], []int64{0, 0, 1}},
		{"3 points without blocks, 3 colours", impl.System{Points: 3}, 3, zeros[:3], []int64{0, 1, 2}},
		{"3 points without blocks, 4 colours", impl.System{Points: 3}, 4, zeros[:3], nil},
		{"3 points without blocks, 6 colours", impl.System{Points: 3}, 6, zeros[:3], nil},
		{"5 points without blocks, 6 colours", impl.System{Points: 5}, 6, zeros[:5], nil},
		{"6 points without blocks, 6 colours", impl.System{Points: 6}, 6, zeros[:6], identity(6)},
		{"15 points without blocks, 1 colour", impl.System{Points: 15}, 1, zeros, zeros},
		{"15 points without blocks, 6 colours", impl.System{Points: 15}, 6, zeros, []int64{0, 0, 0, 0, 0, 0, 0, 0, 0, 0, 1, 2, 3, 4, 5}},
		{"single, 1 colour", single, 1, nil, nil},
		{"single, 2 colours", single, 2, []int64{0, 0, 1}, []int64{0, 0, 1}},
		{"single, 3 colours", single, 3, []int64{0, 0, 1}, nil},
		{"single, 6 colours", single, 6, []int64{0, 0, 1}, nil},
		{"two blocks, 3 colours", system(t, "5:abc,ade"), 3, []int64{0, 0, 1, 0, 1}, []int64{0, 0, 1, 0, 2}},
		{"two blocks, 4 colours", system(t, "5:abc,ade"), 4, []int64{0, 0, 1, 0, 1}, nil},
		{"a Pasch, 2 colours", system(t, "6:abd,ace,bcf,def"), 2, []int64{0, 0, 1, 1, 0, 0}, []int64{0, 0, 1, 1, 0, 0}},
		{"a Pasch, 3 colours", system(t, "6:abd,ace,bcf,def"), 3, []int64{0, 0, 0, 1, 1, 2}, []int64{0, 0, 0, 1, 1, 2}},
		{"fano, 1 colour", fano, 1, nil, nil},
		{"fano, 2 colours", fano, 2, nil, nil},
		{"fano, 3 colours", fano, 3, inFano, inFano},
		{"fano, 4 colours", fano, 4, inFano, nil},
		{"fano, 6 colours", fano, 6, inFano, nil},
		{"fano of 8 points, 3 colours", fanoAnd(t, 8), 3, append(slices.Clone(inFano), 0), append(slices.Clone(inFano), 0)},
		{"fano of 8 points, 4 colours", fanoAnd(t, 8), 4, append(slices.Clone(inFano), 0), append(slices.Clone(inFano), 3)},
		{"fano of 8 points, 5 colours", fanoAnd(t, 8), 5, append(slices.Clone(inFano), 0), nil},
		{"fano without the last block, 2 colours", impl.System{Points: 7, Blocks: fano.Blocks[:6]}, 2, []int64{0, 0, 0, 1, 1, 0, 1}, []int64{0, 0, 0, 1, 1, 0, 1}},
		{"fano without the last block, 4 colours", impl.System{Points: 7, Blocks: fano.Blocks[:6]}, 4, []int64{0, 0, 0, 1, 1, 0, 1}, []int64{0, 0, 0, 1, 2, 0, 3}},
		{"affine, 2 colours", affine, 2, nil, nil},
		{"affine, 3 colours", affine, 3, inAffine, inAffine},
		{"affine, 4 colours", affine, 4, inAffine, nil},
		{"cyclic13, 2 colours", named(t, "cyclic13"), 2, nil, nil},
		{"cyclic13, 3 colours", named(t, "cyclic13"), 3, inThirteen, []int64{0, 0, 0, 0, 1, 2, 2, 1, 2, 0, 2, 2, 2}},
		{"cyclic13, 4 colours", named(t, "cyclic13"), 4, inThirteen, nil},
		{"projective15, 2 colours", projective, 2, nil, nil},
		{"projective15, 3 colours", projective, 3, []int64{0, 0, 1, 0, 1, 2, 1, 0, 2, 1, 1, 2, 2, 2, 0}, nil},
		{"projective15, 4 colours", projective, 4, inProjective, inProjective},
		{"projective15, 5 colours", projective, 5, inProjective, nil},
		{"projective15, 6 colours", projective, 6, inProjective, nil},
		{"a system of 60 automorphisms, 3 colours", system(t, fifteenTexts()[60]), 3, []int64{0, 0, 0, 0, 0, 1, 1, 1, 1, 1, 0, 2, 2, 2, 2}, nil},
	} {
		wantFirstColours(t, c.what, c.x, c.k, c.colouring, c.strict)
	}
}

// TestFirstColoursAreFound takes systems in which a search for strict colourings with 6 colours has far to
// go, to one or to none; they were found by changing systems again and again.
func TestFirstColoursAreFound(t *testing.T) {
	x := system(t, "15:aeh,afo,amn,bfn,bmo,ceo,ckn,dgm,dln,ein,fjm,ghn,gjl,hjo,ikm,ilo")
	wantFirstColours(t, "a far one", x, 6, []int64{0, 0, 0, 0, 0, 0, 0, 1, 0, 0, 0, 1, 1, 1, 1}, []int64{0, 1, 2, 2, 0, 2, 3, 2, 2, 3, 4, 5, 2, 2, 2})
	x = system(t, "15:aco,adj,ahn,bdn,beo,bgl,bjm,chm,cjn,dho,dlm,ein,fgm,fio,gkn,ikm,jko")
	wantFirstColours(t, "none", x, 6, []int64{0, 0, 0, 0, 0, 0, 0, 0, 0, 1, 0, 1, 1, 1, 1}, nil)
	x = system(t, "15:aeo,ajn,bem,bho,bkn,cjm,cko,dfm,dgo,dln,ehn,fin,flo,gmn,hlm,ijo,ikm")
	wantFirstColours(t, "none, far", x, 6, []int64{0, 0, 0, 0, 0, 0, 0, 0, 0, 0, 0, 0, 1, 1, 1}, nil)
}

func TestColourNumberByHand(t *testing.T) {
	for name, want := range map[string]int64{"single": 2, "fano": 3, "affine": 3, "cyclic13": 3, "cyclic15": 3, "projective15": 3} {
		n, code := impl.ColourNumber(named(t, name))
		wantValue(t, "ColourNumber of "+name, n, code, want, impl.ErrNone)
	}
	for _, v := range []int64{3, 4, 14, 15} {
		n, code := impl.ColourNumber(impl.System{Points: v})
		wantValue(t, "ColourNumber without blocks", n, code, 1, impl.ErrNone)
	}
	n, code := impl.ColourNumber(system(t, "15:mno"))
	wantValue(t, "ColourNumber of one block", n, code, 2, impl.ErrNone)
	n, code = impl.ColourNumber(impl.System{Points: 7, Blocks: named(t, "fano").Blocks[1:]})
	wantValue(t, "ColourNumber of fano without a block", n, code, 2, impl.ErrNone)
	n, code = impl.ColourNumber(fanoAnd(t, 15))
	wantValue(t, "ColourNumber of fano of 15 points", n, code, 3, impl.ErrNone)
}

func TestCountColourings(t *testing.T) {
	for _, plain := range partSystems(t) {
		x, guard := guardSystem(plain)
		for k := int64(1); k <= 3; k++ {
			n, code := impl.CountColourings(x, k)
			if x.Points > 9 {
				wantValue(t, "CountColourings of too many points", n, code, 0, impl.ErrLimit)
				continue
			}
			wantValue(t, "CountColourings", n, code, plainCount(plain, k, allowed), impl.ErrNone)
		}
		guard.check(t, "CountColourings")
	}
}

func TestCountColouringsByHand(t *testing.T) {
	for _, c := range []struct {
		what   string
		x      impl.System
		counts [3]int64
	}{
		{"3 points without blocks", impl.System{Points: 3}, [3]int64{1, 8, 27}},
		{"9 points without blocks", impl.System{Points: 9}, [3]int64{1, 512, 19683}},
		{"single", named(t, "single"), [3]int64{0, 6, 24}},
		{"a block of 4 points", system(t, "4:acd"), [3]int64{0, 12, 72}},
		{"a block of 9 points", system(t, "9:ghi"), [3]int64{0, 384, 17496}},
		{"two blocks that meet", system(t, "5:abc,ade"), [3]int64{0, 18, 192}},
		{"two blocks that do not meet", system(t, "6:abf,cde"), [3]int64{0, 36, 576}},
		{"a Pasch", system(t, "6:abd,ace,bcf,def"), [3]int64{0, 18, 450}},
		{"fano", named(t, "fano"), [3]int64{0, 0, 882}},
		{"fano of 8 points", fanoAnd(t, 8), [3]int64{0, 0, 2646}},
		{"fano of 9 points", fanoAnd(t, 9), [3]int64{0, 0, 7938}},
		{"affine", named(t, "affine"), [3]int64{0, 0, 3762}},
	} {
		for i, want := range c.counts {
			n, code := impl.CountColourings(c.x, int64(i)+1)
			wantValue(t, "CountColourings of "+c.what, n, code, want, impl.ErrNone)
		}
	}
	for _, x := range []impl.System{{Points: 10}, {Points: 15}, system(t, "10:abc"), onMore(named(t, "affine"), 10), fanoAnd(t, 10), named(t, "cyclic13"), named(t, "projective15")} {
		for k := int64(1); k <= 3; k++ {
			n, code := impl.CountColourings(x, k)
			wantValue(t, "CountColourings of more than 9 points", n, code, 0, impl.ErrLimit)
		}
	}
}

// wantNoParts checks what the functions without other arguments return beside an error.
func wantNoParts(t *testing.T, what string, x impl.System, wantCode int64) {
	t.Helper()
	rows, code := impl.Subsystems(x)
	wantRows(t, "Subsystems of "+what, rows, code, nil, wantCode)
	list, code := impl.MostIndependent(x)
	wantList(t, "MostIndependent of "+what, list, code, nil, wantCode)
	list, code = impl.LeastMeeting(x)
	wantList(t, "LeastMeeting of "+what, list, code, nil, wantCode)
	n, code := impl.ColourNumber(x)
	wantValue(t, "ColourNumber of "+what, n, code, 0, wantCode)
}

// wantNoFirst checks what is returned beside an error for a number of colours.
func wantNoFirst(t *testing.T, what string, x impl.System, k int64, wantCode int64) {
	t.Helper()
	list, code := impl.FirstColouring(x, k)
	wantList(t, "FirstColouring of "+what, list, code, nil, wantCode)
	list, code = impl.FirstStrict(x, k)
	wantList(t, "FirstStrict of "+what, list, code, nil, wantCode)
}

// wantNoCount checks what CountIndependent returns beside an error.
func wantNoCount(t *testing.T, what string, x impl.System, k int64, wantCode int64) {
	t.Helper()
	n, code := impl.CountIndependent(x, k)
	wantValue(t, "CountIndependent of "+what, n, code, 0, wantCode)
}

// wantNoColourings checks what CountColourings returns beside an error.
func wantNoColourings(t *testing.T, what string, x impl.System, k int64, wantCode int64) {
	t.Helper()
	n, code := impl.CountColourings(x, k)
	wantValue(t, "CountColourings of "+what, n, code, 0, wantCode)
}

// TestPartsOfInvalidSystems gives good and bad other arguments too: ErrInvalid comes before ErrRange,
// ErrNotFound and ErrLimit.
func TestPartsOfInvalidSystems(t *testing.T) {
	for name, plain := range invalidSystems() {
		x, guard := guardSystem(plain)
		wantNoParts(t, name, x, impl.ErrInvalid)
		for _, k := range append(noNumbersOfColours(6), 1, 2, 3, 4, 6, 15, 16) {
			wantNoFirst(t, name, x, k, impl.ErrInvalid)
			wantNoCount(t, name, x, k, impl.ErrInvalid)
			wantNoColourings(t, name, x, k, impl.ErrInvalid)
			wantColours(t, name, x, k, make([]int64, 7), false, false, impl.ErrInvalid)
			wantColours(t, name, x, k, nil, false, false, impl.ErrInvalid)
		}
		for _, set := range [][]int64{nil, {0}, {0, 1, 2}, {0, 0}, {-1}, {mostInt}, identity(7), identity(15), identity(16)} {
			wantSetFacts(t, name, x, set, false, false, nil, impl.ErrInvalid)
			wantColours(t, name, x, 6, set, false, false, impl.ErrInvalid)
		}
		if x.Points > 0 && x.Points <= 16 {
			wantColours(t, name, x, 6, make([]int64, x.Points), false, false, impl.ErrInvalid)
		}
		guard.check(t, "parts of "+name)
	}
}

func TestSetsOfPointsOutside(t *testing.T) {
	for _, x := range []impl.System{named(t, "single"), named(t, "fano"), named(t, "projective15"), {Points: 3}, {Points: 15}, system(t, "4:abc"), system(t, "8:abc,ade"), named(t, "cyclic13")} {
		for _, set := range append(noSets(x.Points), identity(x.Points+1), []int64{1, 0}, slices.Repeat(identity(x.Points), 2)) {
			wantSetFacts(t, "no set", x, set, false, false, nil, impl.ErrRange)
		}
	}
}

// TestNumbersOfParts gives numbers next to the limits, and far from them.
func TestNumbersOfParts(t *testing.T) {
	for _, x := range []impl.System{named(t, "single"), named(t, "fano"), named(t, "projective15"), {Points: 3}, {Points: 15}, {Points: 9}, {Points: 10}, system(t, "4:abc")} {
		for _, k := range []int64{-1, 16, 17, -15, 100, 1 << 32, 1<<32 + 2, -1 << 32, mostInt, leastInt} {
			wantNoCount(t, "a number of points", x, k, impl.ErrRange)
		}
		for _, k := range noNumbersOfColours(6) {
			wantNoFirst(t, "a number of colours", x, k, impl.ErrRange)
			// Lists that would do for some k do not for this one.
			wantColours(t, "a number of colours", x, k, make([]int64, x.Points), false, false, impl.ErrRange)
			wantColours(t, "a number of colours, any list", x, k, []int64{0}, false, false, impl.ErrRange)
		}
		// ErrRange comes before ErrLimit, which 10 points and more have.
		for _, k := range append(noNumbersOfColours(3), 4, 5, 6, 7) {
			wantNoColourings(t, "a number of colours", x, k, impl.ErrRange)
		}
	}
}

func TestColoursOutside(t *testing.T) {
	for _, x := range []impl.System{named(t, "single"), named(t, "fano"), named(t, "projective15"), {Points: 3}, {Points: 15}, system(t, "8:abc,ade")} {
		for k := int64(1); k <= impl.MaxColours; k++ {
			for _, list := range noColours(x.Points, k) {
				wantColours(t, "no colours", x, k, list, false, false, impl.ErrRange)
			}
		}
	}
}

// TestPartsAgain calls functions twice, with the first results overwritten: nothing is kept.
func TestPartsAgain(t *testing.T) {
	x := named(t, "fano")
	for range 2 {
		rows, code := impl.Subsystems(x)
		wantRows(t, "Subsystems", rows, code, [][]int64{{0, 1, 3}, {0, 2, 6}, {0, 4, 5}, {1, 2, 4}, {1, 5, 6}, {2, 3, 5}, {3, 4, 6}, {0, 1, 2, 3, 4, 5, 6}}, impl.ErrNone)
		checkOwnMemory(t, "Subsystems", rows)
		wantSetFacts(t, "two points", x, []int64{0, 1}, false, true, []int64{0, 1, 3}, impl.ErrNone)
		list, code := impl.MostIndependent(x)
		wantList(t, "MostIndependent", list, code, []int64{0, 1, 2, 5}, impl.ErrNone)
		spoil(list, -9)
		list, code = impl.LeastMeeting(x)
		wantList(t, "LeastMeeting", list, code, []int64{0, 1, 3}, impl.ErrNone)
		spoil(list, -9)
		wantFirstColours(t, "fano", x, 3, []int64{0, 0, 0, 1, 1, 0, 2}, []int64{0, 0, 0, 1, 1, 0, 2})
		n, code := impl.CountColourings(x, 3)
		wantValue(t, "CountColourings", n, code, 882, impl.ErrNone)
	}
}

// TestPartsLeaveNothing checks that no goroutine goes on behind the calls.
func TestPartsLeaveNothing(t *testing.T) {
	before := runtime.NumGoroutine()
	for _, x := range []impl.System{named(t, "single"), named(t, "projective15"), {Points: 15}, {}, {Points: 16}} {
		for range 5 {
			impl.Subsystems(x)
			impl.MostIndependent(x)
			impl.CountIndependent(x, 7)
			impl.LeastMeeting(x)
			impl.ColourNumber(x)
		}
	}
	wantNoGoroutines(t, before)
}

// TestPartsAtOnce asks for parts from several sides at once, as nothing is kept between calls.
func TestPartsAtOnce(t *testing.T) {
	x := named(t, "projective15")
	p := partTablesOf(x)
	subsystems, most := p.list(p.isSubsystem), lastOfSize(p.list(p.isIndependent))
	first := cutFirst(x, 4, allowedStrictly, 4)
	var group sync.WaitGroup
	for range 8 {
		group.Go(func() {
			rows, code := impl.Subsystems(x)
			wantRows(t, "Subsystems at once", rows, code, subsystems, impl.ErrNone)
			list, code := impl.MostIndependent(x)
			wantList(t, "MostIndependent at once", list, code, most, impl.ErrNone)
			list, code = impl.FirstStrict(x, 4)
			wantList(t, "FirstStrict at once", list, code, first, impl.ErrNone)
		})
	}
	group.Wait()
}
