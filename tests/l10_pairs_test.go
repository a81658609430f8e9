package tests

import (
	"runtime"
	"slices"
	"sync"
	"testing"

	"loop.example/g01355/impl"
)

// listedSizes returns how many systems of 3, 7 and 9 points there are.
func listedSizes() map[int64]int64 {
	return map[int64]int64{3: 1, 7: 30, 9: 840}
}

// TestSamplePairs checks that the samples have what the tests of systems beside each other need. There are
// two kinds of large sets, with 42 and 54 automorphisms, which makes 9! / 42 + 9! / 54 of them.
func TestSamplePairs(t *testing.T) {
	for v, want := range listedSizes() {
		list := systemsOf(t, v)
		if int64(len(list)) != want || !slices.IsSortedFunc(list, compareSystems) {
			t.Errorf("samples: %d systems of %d", len(list), v)
		}
	}
	sets, table := largeSets(t), largeSetsByNumber(t)
	if len(sets) != 8640+6720 || len(slices.Compact(slices.Clone(sets))) != len(sets) {
		t.Errorf("samples: %d large sets", len(sets))
	}
	for n := range int64(840) {
		if others := table[n]; len(others) != len(sets)*7/840 {
			t.Errorf("samples: %d large sets with the system %d", len(others), n)
		}
	}
	mates, sizes, points := map[int]bool{}, map[int]bool{}, map[int]bool{}
	none, noneOfMany := 0, 0
	for _, x := range turnedSamples(t) {
		k, code := plainMate(x)
		sizes[len(x.Blocks)], points[int(x.Points)] = true, true
		switch {
		case code == impl.ErrNone:
			mates[int(k)] = true
		case x.Points > 9:
			noneOfMany++
		default:
			none++
		}
	}
	wantKeys(t, "as the number of a mate", mates, 1, 2, 3, 4, 5)
	wantKeys(t, "blocks", sizes, 0, 1, 2, 7, 12, 26, 35)
	wantKeys(t, "points", points, 3, 4, 5, 6, 7, 8, 9, 10, 11, 12, 13, 14, 15)
	if none < 400 || noneOfMany < 10 {
		t.Errorf("samples: without a mate %d, of more than 9 points %d", none, noneOfMany)
	}
}

// turnedSamples returns systems of all kinds, all of 3, 7 and 9 points among them, and such as differ
// little from what stays if it is turned.
func turnedSamples(t *testing.T) []impl.System {
	t.Helper()
	random := randomNumbers(101)
	list := slices.Concat(partSystems(t), completingSystems(t)[:100], systemsOf(t, 3), systemsOf(t, 7), systemsOf(t, 9))
	for v := int64(3); v <= impl.MaxPoints; v++ {
		list = append(list, impl.System{Points: v}, impl.System{Points: v, Blocks: []impl.Block{{v - 3, v - 2, v - 1}}})
	}
	for _, name := range []string{"fano", "cyclic13", "cyclic15"} {
		x := named(t, name)
		list = append(list, x)
		for n := 1; n < len(x.Blocks); n++ {
			list = append(list, withoutSome(x, n, &random))
		}
	}
	return list
}

func TestAreApart(t *testing.T) {
	random := randomNumbers(102)
	list := slices.Concat(mixedSystems(t), similar(t, &random), systemsOf(t, 7), systemsOf(t, 9)[:30])
	apart, common, states := 0, 0, 0
	for i, x := range list {
		for _, y := range list[:i+1] {
			switch {
			case random.below(8) > 0:
			case x.Points != y.Points:
				wantApart(t, "other points", x, y, false, impl.ErrState)
				states++
			case plainApart(x, y):
				wantApart(t, "apart", x, y, true, impl.ErrNone)
				apart++
			default:
				wantApart(t, "common blocks", x, y, false, impl.ErrNone)
				common++
			}
		}
	}
	if apart < 200 || common < 200 || states < 200 {
		t.Errorf("samples: apart %d, not apart %d, of other points %d", apart, common, states)
	}
	for _, x := range list {
		wantApart(t, "itself", x, x, len(x.Blocks) == 0, impl.ErrNone)
		wantApart(t, "no blocks", x, impl.System{Points: x.Points}, true, impl.ErrNone)
	}
}

// TestAreApartOfAll takes all two systems of 7 points, and those of large sets.
func TestAreApartOfAll(t *testing.T) {
	for _, x := range systemsOf(t, 7) {
		for _, y := range systemsOf(t, 7) {
			wantApart(t, "systems of 7", x, y, plainApart(x, y), impl.ErrNone)
		}
	}
	for i := 0; i < len(largeSets(t)); i += 1000 {
		list := systemsIn(t, largeSets(t)[i])
		for k, x := range list {
			for _, y := range list[:k] {
				wantApart(t, "systems of a large set", x, y, true, impl.ErrNone)
			}
		}
	}
}

func TestAreApartByHand(t *testing.T) {
	for _, c := range []struct {
		x, y string
		want bool
		code int64
	}{
		{"3:abc", "3:abc", false, impl.ErrNone},
		{"3:", "3:abc", true, impl.ErrNone},
		{"3:", "3:", true, impl.ErrNone},
		{"4:abc", "4:abd", true, impl.ErrNone},
		{"5:abc", "5:cde", true, impl.ErrNone},
		{"6:abc,def", "6:abc", false, impl.ErrNone},
		{"6:abc,def", "6:def", false, impl.ErrNone},
		{"6:abc,def", "6:abd,cef", true, impl.ErrNone},
		{"15:", "15:", true, impl.ErrNone},
		{"15:abc", "15:mno", true, impl.ErrNone},
		{"15:abc,mno", "15:aef,mno", false, impl.ErrNone},
		{"15:abc", "15:abc,ade", false, impl.ErrNone},
		{"7:abc,ade,afg,bdf,beg,cdg,cef", namedTexts()["fano"], true, impl.ErrNone},
		{"7:abc,ade,afg,bdf,beg,cdg,cef", "7:abd,acf,aeg,bce,bfg,cdg,def", false, impl.ErrNone},
		{"7:abc,ade,afg,bdf,beg,cdg,cef", "7:abg,acf,ade,bce,bdf,cdg,efg", false, impl.ErrNone},
		{"7:abc,ade,afg,bdf,beg,cdg,cef", "7:abd,acf,aeg,bcg,bef,cde,dfg", true, impl.ErrNone},
		{namedTexts()["cyclic15"], namedTexts()["projective15"], false, impl.ErrNone},
		{"3:", "4:", false, impl.ErrState},
		{"3:abc", "4:abc", false, impl.ErrState},
		{"14:", "15:", false, impl.ErrState},
		{"7:", "9:", false, impl.ErrState},
		{namedTexts()["cyclic13"], namedTexts()["cyclic15"], false, impl.ErrState},
		{namedTexts()["fano"], namedTexts()["affine"], false, impl.ErrState},
	} {
		wantApart(t, "by hand", system(t, c.x), system(t, c.y), c.want, c.code)
	}
}

func TestSystemAt(t *testing.T) {
	for v := range listedSizes() {
		eachAtOnce(systemsOf(t, v), func(n int64, x impl.System) { wantAt(t, v, n, x, impl.ErrNone) })
	}
}

// TestSystemAtByHand has first and last systems. In the first one the third point is always the least that
// there may be, in the last one the greatest.
func TestSystemAtByHand(t *testing.T) {
	for _, c := range []struct {
		v, i int64
		text string
	}{
		{3, 0, "3:abc"},
		{7, 0, "7:abc,ade,afg,bdf,beg,cdg,cef"},
		{7, 1, "7:abc,ade,afg,bdg,bef,cdf,ceg"},
		{7, 2, "7:abc,adf,aeg,bde,bfg,cdg,cef"},
		{7, 10, namedTexts()["fano"]},
		{7, 28, "7:abg,acf,ade,bcd,bef,ceg,dfg"},
		{7, 29, "7:abg,acf,ade,bce,bdf,cdg,efg"},
		{9, 0, "9:abc,ade,afg,ahi,bdf,beh,bgi,cdi,ceg,cfh,dgh,efi"},
		{9, 71, namedTexts()["affine"]},
		{9, 839, "9:abi,ach,adg,aef,bcg,bdf,beh,cde,cfi,dhi,egi,fgh"},
	} {
		wantAt(t, c.v, c.i, system(t, c.text), impl.ErrNone)
		n, code := impl.NumberOfSystem(system(t, c.text))
		wantValue(t, "NumberOfSystem of "+c.text, n, code, c.i, impl.ErrNone)
	}
}

func TestSystemAtOutside(t *testing.T) {
	for v, n := range listedSizes() {
		for _, i := range append(outside(n), -2, n+2, 1<<32+1, 1000) {
			wantAt(t, v, i, impl.System{}, impl.ErrRange)
		}
	}
	for _, v := range otherSizes() {
		for _, i := range []int64{-1, 0, 1, 29, 30, 839, 840, mostInt, leastInt} {
			wantAt(t, v, i, impl.System{}, impl.ErrRange)
		}
	}
}

func TestListedSystems(t *testing.T) {
	for v := range listedSizes() {
		eachAtOnce(systemsOf(t, v), func(n int64, x impl.System) {
			y, code := plainFirstApart(t, x)
			wantListed(t, "a system", x, n, plainCommonNumbers(t, x), y, code)
		})
	}
}

// TestListedSystemsByHand has the numbers of common blocks that are known: those of two systems of 7 points
// are 0, 1, 3 and 7, of 9 points 0, 1, 2, 3, 4, 6 and 12.
func TestListedSystemsByHand(t *testing.T) {
	wantListed(t, "single", named(t, "single"), 0, []int64{0, 1}, impl.System{}, impl.ErrNotFound)
	wantListed(t, "fano", named(t, "fano"), 10, []int64{8, 14, 0, 7, 0, 0, 0, 1}, system(t, "7:abc,ade,afg,bdf,beg,cdg,cef"), impl.ErrNone)
	affine := []int64{192, 216, 216, 152, 27, 0, 36, 0, 0, 0, 0, 0, 1}
	wantListed(t, "affine", named(t, "affine"), 71, affine, system(t, "9:abd,ace,afg,ahi,bch,beg,bfi,cdf,cgi,dei,dgh,efh"), impl.ErrNone)
	wantListed(t, "the first of 7", systemsOf(t, 7)[0], 0, []int64{8, 14, 0, 7, 0, 0, 0, 1}, system(t, "7:abd,acf,aeg,bcg,bef,cde,dfg"), impl.ErrNone)
}

func TestTurnSystem(t *testing.T) {
	for _, x := range turnedSamples(t) {
		for k := range x.Points {
			wantTurned(t, "a system", x, k, plainTurned(x, k), impl.ErrNone)
		}
		for _, k := range append(outside(x.Points), 1<<32*x.Points, -x.Points-1, 2*x.Points) {
			wantTurned(t, "no such number", x, k, impl.System{}, impl.ErrRange)
		}
	}
}

func TestTurnSystemByHand(t *testing.T) {
	fano := namedTexts()["fano"]
	for _, c := range []struct {
		x    string
		k    int64
		want string
	}{
		{"3:", 2, "3:"},
		{"3:abc", 0, "3:abc"},
		{"3:abc", 1, "3:abc"},
		{"3:abc", 2, "3:abc"},
		{"4:abc", 0, "4:abc"},
		{"4:abc", 1, "4:bcd"},
		{"4:abc", 2, "4:acd"},
		{"4:abc", 3, "4:abd"},
		{"5:abc,ade", 1, "5:abe,bcd"},
		{"5:abc,ade", 4, "5:abe,cde"},
		{"6:ace", 1, "6:bdf"},
		{"6:ace", 2, "6:ace"},
		{"7:abc,ade,afg,bdf,beg,cdg,cef", 1, "7:abg,acf,ade,bcd,bef,ceg,dfg"},
		{"7:abc,ade,afg,bdf,beg,cdg,cef", 6, "7:abg,ace,adf,bcf,bde,cdg,efg"},
		{fano, 0, fano},
		{fano, 1, fano},
		{fano, 6, fano},
		{"15:abc", 1, "15:bcd"},
		{"15:abc", 14, "15:abo"},
		{"15:abc,mno", 3, "15:abc,def"},
		{"15:abc,mno", 12, "15:jkl,mno"},
		{"15:", 14, "15:"},
		{namedTexts()["cyclic13"], 12, namedTexts()["cyclic13"]},
		{namedTexts()["cyclic15"], 7, namedTexts()["cyclic15"]},
	} {
		wantTurned(t, "by hand", system(t, c.x), c.k, system(t, c.want), impl.ErrNone)
	}
}

func TestMateByTurning(t *testing.T) {
	for _, x := range turnedSamples(t) {
		k, code := plainMate(x)
		wantMate(t, "a system", x, k, code)
	}
}

func TestMateByTurningByHand(t *testing.T) {
	for _, c := range []struct {
		text       string
		want, code int64
	}{
		{"3:", 1, impl.ErrNone},
		{"3:abc", 0, impl.ErrNotFound},
		{"4:abc", 1, impl.ErrNone},
		{"4:", 1, impl.ErrNone},
		{"6:ace", 1, impl.ErrNone},
		{"6:ace,bdf", 0, impl.ErrNotFound},
		{"9:abd,bce", 2, impl.ErrNone},
		{"9:abd,bce,cdf", 3, impl.ErrNone},
		{"9:adg", 1, impl.ErrNone},
		{"9:adg,beh", 0, impl.ErrNotFound},
		{"9:adg,beh,cfi", 0, impl.ErrNotFound},
		{"15:mno", 1, impl.ErrNone},
		{"15:", 1, impl.ErrNone},
		{"15:afk", 1, impl.ErrNone},
		{"15:afk,bgl", 2, impl.ErrNone},
		{"13:", 1, impl.ErrNone},
		{namedTexts()["fano"], 0, impl.ErrNotFound},
		{namedTexts()["affine"], 0, impl.ErrNotFound},
		{namedTexts()["cyclic13"], 0, impl.ErrNotFound},
		{namedTexts()["cyclic15"], 0, impl.ErrNotFound},
		{"9:abc,ade,afg,ahi,bdf,beh,bgi,cdi,ceg,cfh,dgh,efi", 0, impl.ErrNotFound},
		{"9:abc,ade,afh,agi,bdf,bei,bgh,cdg,ceh,cfi,dhi,efg", 1, impl.ErrNone},
		{"9:abc,ade,afh,agi,bdg,beh,bfi,cdf,cei,cgh,dhi,efg", 2, impl.ErrNone},
		{"9:abc,ade,afh,agi,bdg,bef,bhi,cdh,cei,cfg,dfi,egh", 3, impl.ErrNone},
		{"9:abc,ade,afg,ahi,bdf,bei,bgh,cdh,ceg,cfi,dgi,efh", 4, impl.ErrNone},
	} {
		wantMate(t, "by hand", system(t, c.text), c.want, c.code)
	}
}

// changedFamilies returns lists of up to seven systems that differ from a large set in one of them.
func changedFamilies(t *testing.T, list []impl.System, random *randomNumbers) [][]impl.System {
	t.Helper()
	var lists [][]impl.System
	for i := range list {
		x := list[i]
		for _, y := range []impl.System{
			list[(i+1)%len(list)],
			systemsOf(t, 9)[random.below(840)],
			withoutSome(x, 1, random),
			{Points: 9, Blocks: x.Blocks[1:]},
			{Points: 9, Blocks: x.Blocks[:11]},
			{Points: 9},
			{Points: 3},
			{Points: 15},
			onMore(x, 10),
			named(t, "single"),
			named(t, "fano"),
			thirteen(t),
			named(t, "cyclic15"),
		} {
			other := slices.Clone(list)
			other[i] = y
			lists = append(lists, other)
		}
	}
	return lists
}

func TestIsFamily(t *testing.T) {
	random := randomNumbers(103)
	yes, no := 0, 0
	for i := 0; i < len(largeSets(t)); i += 400 {
		list := systemsIn(t, largeSets(t)[i])
		var mixed []impl.System
		for _, k := range random.order(len(list)) {
			mixed = append(mixed, list[k])
		}
		for n := range len(list) + 1 {
			wantFamily(t, "systems of a large set", list[:n], true, impl.ErrNone)
			wantFamily(t, "systems of a large set, in any order", mixed[:n], true, impl.ErrNone)
			if n == 0 {
				continue
			}
			for _, other := range changedFamilies(t, mixed[:n], &random) {
				want := plainInFamily(other)
				wantFamily(t, "a large set with another system", other, want, impl.ErrNone)
				if want {
					yes++
				} else {
					no++
				}
			}
		}
	}
	if yes < 10 || no < 10000 {
		t.Errorf("samples: families %d, others %d", yes, no)
	}
}

func TestIsFamilyByHand(t *testing.T) {
	affine, fano := named(t, "affine"), named(t, "fano")
	first := system(t, "9:abd,ace,afg,ahi,bch,beg,bfi,cdf,cgi,dei,dgh,efh")
	wantFamily(t, "no systems", nil, true, impl.ErrNone)
	wantFamily(t, "no systems", []impl.System{}, true, impl.ErrNone)
	wantFamily(t, "affine", []impl.System{affine}, true, impl.ErrNone)
	wantFamily(t, "affine twice", []impl.System{affine, affine}, false, impl.ErrNone)
	wantFamily(t, "affine and the first one apart", []impl.System{affine, first}, true, impl.ErrNone)
	wantFamily(t, "the first one apart and affine", []impl.System{first, affine}, true, impl.ErrNone)
	wantFamily(t, "both, and one again", []impl.System{first, affine, first}, false, impl.ErrNone)
	wantFamily(t, "fano", []impl.System{fano}, false, impl.ErrNone)
	wantFamily(t, "two of 7 points that are apart", []impl.System{fano, systemsOf(t, 7)[0]}, false, impl.ErrNone)
	wantFamily(t, "affine and fano", []impl.System{affine, fano}, false, impl.ErrNone)
	wantFamily(t, "no blocks", []impl.System{{Points: 9}}, false, impl.ErrNone)
	wantFamily(t, "seven times no blocks", slices.Repeat([]impl.System{{Points: 9}}, 7), false, impl.ErrNone)
	wantFamily(t, "seven times affine", slices.Repeat([]impl.System{affine}, 7), false, impl.ErrNone)
	wantFamily(t, "fifteen points", []impl.System{named(t, "projective15")}, false, impl.ErrNone)
	wantFamily(t, "thirteen points", []impl.System{named(t, "cyclic13")}, false, impl.ErrNone)
	wantFamily(t, "fifteen points without blocks", []impl.System{affine, {Points: 15}}, false, impl.ErrNone)
	wantFamily(t, "three points", []impl.System{named(t, "single")}, false, impl.ErrNone)
	wantFamily(t, "without a block", []impl.System{first, {Points: 9, Blocks: affine.Blocks[1:]}}, false, impl.ErrNone)
}

// TestTooManySystems takes lists of eight and more systems: of good and bad ones, but all of them systems.
func TestTooManySystems(t *testing.T) {
	large := systemsIn(t, largeSets(t)[0])
	for _, x := range []impl.System{large[0], systemsOf(t, 9)[839], named(t, "fano"), named(t, "single"), named(t, "cyclic15"), {Points: 9}, {Points: 15}} {
		wantFamily(t, "eight systems", append(slices.Clone(large), x), false, impl.ErrRange)
		wantFamily(t, "eight systems", append([]impl.System{x}, large...), false, impl.ErrRange)
		wantFamily(t, "seven equal systems", slices.Repeat([]impl.System{x}, 7), false, impl.ErrNone)
		for _, n := range []int{8, 9, 14, 263, 1000} {
			wantFamily(t, "too many equal systems", slices.Repeat([]impl.System{x}, n), false, impl.ErrRange)
		}
	}
	wantFamily(t, "all systems of 9", systemsOf(t, 9), false, impl.ErrRange)
}

// TestNoSystemsInLists has what is no system in each place of lists of one to nine: ErrInvalid comes before
// ErrRange, and before anything else is told.
func TestNoSystemsInLists(t *testing.T) {
	list := append(systemsIn(t, largeSets(t)[0]), named(t, "fano"), impl.System{Points: 15})
	for name, x := range invalidSystems() {
		for n := range list {
			for i := range n + 1 {
				wantFamily(t, name, slices.Insert(slices.Clone(list[:n]), i, x), false, impl.ErrInvalid)
			}
		}
		wantFamily(t, name+" behind too many", append(slices.Repeat([]impl.System{list[0]}, 100), x), false, impl.ErrInvalid)
		wantFamily(t, name+" behind what is not apart", []impl.System{list[0], list[0], x}, false, impl.ErrInvalid)
	}
}

func TestLargeSets(t *testing.T) {
	table := largeSetsByNumber(t)
	eachAtOnce(systemsOf(t, 9), func(n int64, x impl.System) {
		wantLargeSets(t, "a system", x, plainFirstLargeSet(t, table[n], n), 128, impl.ErrNone)
	})
}

func TestLargeSetsByHand(t *testing.T) {
	var affine []impl.System
	for _, text := range []string{
		"9:abc,adg,aei,afh,bdi,beh,bfg,cdh,ceg,cfi,def,ghi",
		"9:abd,ace,afg,ahi,bch,beg,bfi,cdf,cgi,dei,dgh,efh",
		"9:abe,acf,adh,agi,bcg,bdf,bhi,cdi,ceh,deg,efi,fgh",
		"9:abf,ach,adi,aeg,bci,bde,bgh,cdg,cef,dfh,ehi,fgi",
		"9:abg,aci,adf,aeh,bcf,bdh,bei,cde,cgh,dgi,efg,fhi",
		"9:abh,acg,ade,afi,bcd,bef,bgi,cei,cfh,dfg,dhi,egh",
		"9:abi,acd,aef,agh,bce,bdg,bfh,cfg,chi,deh,dfi,egi",
	} {
		affine = append(affine, system(t, text))
	}
	wantLargeSets(t, "affine", affine[0], affine, 128, impl.ErrNone)
	for _, n := range []int64{0, 125, 839} {
		x := systemsOf(t, 9)[n]
		list, code := impl.LargeSetWith(x)
		if len(list) != 7 || code != impl.ErrNone {
			t.Fatalf("LargeSetWith of the system %d = %v, %d", n, list, code)
		}
		wantSystem(t, "the first one", list[0], code, x, impl.ErrNone)
		if blocks := blocksOfAll(list); !slices.Equal(blocks, triples(9)) {
			t.Errorf("LargeSetWith of the system %d has the blocks %v", n, blocks)
		}
	}
}

// blocksOfAll returns the blocks of all systems of a list, ascending.
func blocksOfAll(list []impl.System) []impl.Block {
	var blocks []impl.Block
	for _, x := range list {
		blocks = append(blocks, x.Blocks...)
	}
	slices.SortFunc(blocks, compareBlocks)
	return blocks
}

func TestPairsOfInvalidSystems(t *testing.T) {
	for name, x := range invalidSystems() {
		wantNotListed(t, name, x, impl.ErrInvalid)
		wantMate(t, name, x, 0, impl.ErrInvalid)
		wantLargeSets(t, name, x, nil, 0, impl.ErrInvalid)
		for _, k := range append(outside(7), 0, 1, 2, 3, 15, 16) {
			wantTurned(t, name, x, k, impl.System{}, impl.ErrInvalid)
		}
		// Others with as many points, and with another number of points: ErrInvalid comes before ErrState.
		for _, y := range []impl.System{x, {Points: x.Points}, {Points: 3}, {Points: 9}, {Points: 15}, named(t, "fano"), named(t, "affine"), named(t, "projective15")} {
			wantApart(t, name, x, y, false, impl.ErrInvalid)
		}
	}
	// Invalid ones with all numbers of points: ErrInvalid comes before ErrState, also if the number is none
	// of those that are told.
	for v := int64(3); v <= impl.MaxPoints; v++ {
		for _, x := range []impl.System{
			{Points: v, Blocks: []impl.Block{{0, 1, v}}},
			{Points: v, Blocks: []impl.Block{{0, 1, 2}, {0, 1, 2}}},
		} {
			wantNotListed(t, "no system", x, impl.ErrInvalid)
			wantLargeSets(t, "no system", x, nil, 0, impl.ErrInvalid)
			wantMate(t, "no system", x, 0, impl.ErrInvalid)
			wantTurned(t, "no system", x, v, impl.System{}, impl.ErrInvalid)
			wantApart(t, "no system", x, impl.System{Points: v%13 + 3}, false, impl.ErrInvalid)
		}
	}
}

// TestPairsOfOtherSystems takes what has no number, systems of 13 and 15 points with and without blocks
// among them.
func TestPairsOfOtherSystems(t *testing.T) {
	for _, x := range noListedSystems(t) {
		wantNotListed(t, "what has no number", x, impl.ErrState)
		wantLargeSets(t, "what has no number", x, nil, 0, impl.ErrState)
	}
	for _, x := range slices.Concat(systemsOf(t, 3), systemsOf(t, 7), kindsOfFulls(t)) {
		if x.Points != 9 {
			wantLargeSets(t, "full with other points", x, nil, 0, impl.ErrState)
		}
	}
	for _, x := range systemsOf(t, 9)[:40] {
		for i := range x.Blocks {
			y := impl.System{Points: 9, Blocks: slices.Delete(slices.Clone(x.Blocks), i, i+1)}
			wantLargeSets(t, "without a block", y, nil, 0, impl.ErrState)
			wantNotListed(t, "without a block", y, impl.ErrState)
		}
	}
}

// TestPairsOfManyPoints takes systems of 13 and 15 points with and without blocks: all functions return for
// them.
func TestPairsOfManyPoints(t *testing.T) {
	random := randomNumbers(104)
	list := []impl.System{{Points: 13}, {Points: 15}, system(t, "13:abc"), system(t, "15:abc"), system(t, "13:klm"), system(t, "15:mno")}
	for _, x := range append(kindsOfFulls(t), named(t, "cyclic15")) {
		if x.Points < 13 {
			continue
		}
		list = append(list, x)
		for _, n := range []int{1, 2, 12, 13, len(x.Blocks) / 2, len(x.Blocks) - 1, len(x.Blocks)} {
			list = append(list, withoutSome(x, n, &random))
		}
	}
	for _, x := range list {
		wantNotListed(t, "many points", x, impl.ErrState)
		wantLargeSets(t, "many points", x, nil, 0, impl.ErrState)
		k, code := plainMate(x)
		wantMate(t, "many points", x, k, code)
		wantFamily(t, "many points", []impl.System{x}, false, impl.ErrNone)
		wantFamily(t, "many points", slices.Repeat([]impl.System{x}, 8), false, impl.ErrRange)
		for k := range x.Points {
			y := plainTurned(x, k)
			wantTurned(t, "many points", x, k, y, impl.ErrNone)
			wantApart(t, "many points", x, y, plainApart(x, y), impl.ErrNone)
		}
		wantAt(t, x.Points, 0, impl.System{}, impl.ErrRange)
	}
}

// callsOfPairs calls all functions of the chapter.
func callsOfPairs(x impl.System) {
	impl.AreApart(x, x)
	impl.SystemAt(x.Points, int64(len(x.Blocks)))
	impl.NumberOfSystem(x)
	impl.CommonNumbers(x)
	impl.FirstApart(x)
	impl.TurnSystem(x, 1)
	impl.MateByTurning(x)
	impl.IsFamily([]impl.System{x, x})
	impl.LargeSetWith(x)
	impl.CountFamilies(x)
}

// TestPairsAgain calls functions twice, with the first results overwritten: nothing is kept.
func TestPairsAgain(t *testing.T) {
	fano, affine := named(t, "fano"), named(t, "affine")
	zero := systemsOf(t, 7)[0]
	first := plainFirstLargeSet(t, largeSetsByNumber(t)[71], 71)
	for range 2 {
		wantApart(t, "fano and the first system", fano, zero, true, impl.ErrNone)
		wantAt(t, 7, 10, fano, impl.ErrNone)
		wantAt(t, 9, 71, affine, impl.ErrNone)
		wantListed(t, "fano", fano, 10, []int64{8, 14, 0, 7, 0, 0, 0, 1}, zero, impl.ErrNone)
		wantTurned(t, "fano", fano, 3, fano, impl.ErrNone)
		wantMate(t, "two blocks", system(t, "9:abd,bce"), 2, impl.ErrNone)
		wantFamily(t, "a large set", first, true, impl.ErrNone)
		wantLargeSets(t, "affine", affine, first, 128, impl.ErrNone)
	}
}

// TestPairsLeaveNothing checks that no goroutine goes on behind the calls.
func TestPairsLeaveNothing(t *testing.T) {
	before := runtime.NumGoroutine()
	for _, x := range []impl.System{named(t, "single"), named(t, "fano"), named(t, "affine"), named(t, "projective15"), {Points: 7}, {Points: 9}, {Points: 15}, {}} {
		for range 5 {
			callsOfPairs(x)
		}
	}
	wantNoGoroutines(t, before)
}

// TestPairsAtOnce asks for the same from several sides at once: nothing is kept, and nothing is written to
// an argument.
func TestPairsAtOnce(t *testing.T) {
	want := plainFirstLargeSet(t, largeSetsByNumber(t)[71], 71)
	x, guard := guardSystem(named(t, "affine"))
	g := guardSystems(want)
	var group sync.WaitGroup
	for k := range int64(8) {
		group.Go(func() {
			list, code := impl.LargeSetWith(x)
			if code != impl.ErrNone || !slices.EqualFunc(list, want, sameSystem) {
				t.Errorf("LargeSetWith at once = %v, %d", list, code)
			}
			n, code := impl.CountFamilies(x)
			wantValue(t, "CountFamilies at once", n, code, 128, impl.ErrNone)
			family, code := impl.IsFamily(g.list)
			wantValue(t, "IsFamily at once", family, code, true, impl.ErrNone)
			y, code := impl.TurnSystem(x, k)
			wantSystem(t, "TurnSystem at once", y, code, plainTurned(x, k), impl.ErrNone)
			n, code = impl.NumberOfSystem(x)
			wantValue(t, "NumberOfSystem at once", n, code, 71, impl.ErrNone)
			y, code = impl.SystemAt(9, 71)
			wantSystem(t, "SystemAt at once", y, code, x, impl.ErrNone)
		})
	}
	group.Wait()
	guard.check(t, "pairs at once")
	g.check(t, "pairs at once")
}
