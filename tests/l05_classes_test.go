package tests

import (
	"runtime"
	"slices"
	"sync"
	"testing"

	"loop.example/g01355/impl"
)

// TestSampleClasses checks that the samples have what the tests of classes need.
func TestSampleClasses(t *testing.T) {
	classes, near, resolutions, most := map[int]bool{}, map[int]bool{}, map[int]bool{}, map[int]bool{}
	notGreedy, otherStart, notResolvable := 0, 0, 0
	for _, x := range classSystems(t) {
		list, all := plainClasses(x, 0), plainResolutions(x)
		classes[len(list)], near[len(plainClasses(x, 1))], resolutions[len(all)] = true, true, true
		most[len(plainMost(x))] = true
		switch {
		case len(all) == 0 && len(list) > 3:
			notResolvable++
		case len(all) > 0 && len(list) > 0 && !slices.Equal(all[0][0], list[0]):
			otherStart++
		case len(all) > 0 && !sameRows(all[0], greedyResolution(x)):
			notGreedy++
		}
	}
	wantKeys(t, "classes", classes, 0, 1, 2, 3, 4, 8, 15, 56)
	wantKeys(t, "near classes", near, 0, 1, 3, 8, 13)
	wantKeys(t, "resolutions", resolutions, 0, 1, 2, 3, 30, 240)
	wantKeys(t, "disjoint blocks at most", most, 0, 1, 2, 3, 4, 5)
	if notGreedy < 1 || otherStart < 3 || notResolvable < 3 {
		t.Errorf("samples: first resolutions that are not greedy %d, that do not begin with the first class %d, classes but no resolution %d", notGreedy, otherStart, notResolvable)
	}
}

func wantKeys(t *testing.T, what string, keys map[int]bool, want ...int) {
	t.Helper()
	for _, n := range want {
		if !keys[n] {
			t.Errorf("no sample has %d %s", n, what)
		}
	}
}

// TestClassLimits takes the systems with the most classes and resolutions that there are, as far as is
// known: these are below the limits. Above MaxClasses there is none: at most 7 blocks have the point
// 0, and the 12 points beside one of them have at most 10 classes.
func TestClassLimits(t *testing.T) {
	if impl.MaxClasses != 80 || impl.MaxResolutions != 300 {
		t.Errorf("MaxClasses %d, MaxResolutions %d", impl.MaxClasses, impl.MaxResolutions)
	}
	for _, name := range []string{"projective15", "cyclic15"} {
		x := named(t, name)
		classes, _, code := impl.CountClasses(x)
		wantValue(t, "the classes of "+name, classes, code, 56, impl.ErrNone)
		first, code := impl.FirstResolution(x)
		wantValue(t, "the classes of the first resolution of "+name, len(first), code, 7, impl.ErrNone)
		n, code := impl.CountResolutions(x)
		wantValue(t, "the resolutions of "+name, n, code, 240, impl.ErrNone)
	}
}

// checkSet compares what AreDisjoint and IsClass say of a set with what the points of its blocks say.
func checkSet(t *testing.T, plain impl.System, set []int64) {
	t.Helper()
	x, guardX := guardSystem(plain)
	list := guard(set, -7)
	disjoint := plainIsDisjoint(plain, set)
	yes, code := impl.AreDisjoint(x, list.list)
	wantValue(t, "AreDisjoint", yes, code, disjoint, impl.ErrNone)
	yes, code = impl.IsClass(x, list.list)
	wantValue(t, "IsClass", yes, code, disjoint && plainPointsLeft(plain, set) == 0, impl.ErrNone)
	guardX.check(t, "AreDisjoint or IsClass")
	list.check(t, "AreDisjoint or IsClass")
}

func TestAreDisjointAndIsClass(t *testing.T) {
	random := randomNumbers(53)
	for _, x := range classSystems(t) {
		checkSet(t, x, nil)
		n := int64(len(x.Blocks))
		for i := range n {
			checkSet(t, x, []int64{i})
			for k := range i {
				checkSet(t, x, []int64{k, i})
			}
		}
		for size := range min(n+1, 8) {
			set := random.order(int(n))[:size]
			slices.Sort(set)
			checkSet(t, x, set)
		}
		var all []int64
		for i := range n {
			all = append(all, i)
		}
		checkSet(t, x, all)
		// A class, a class with a block more, and one with a block less.
		for _, class := range plainClasses(x, 0) {
			checkSet(t, x, class)
			checkSet(t, x, class[1:])
			more := append(slices.Clone(class), int64(random.below(int(n))))
			slices.Sort(more)
			checkSet(t, x, slices.Compact(more))
		}
		for _, class := range plainClasses(x, 1) {
			checkSet(t, x, class)
		}
	}
}

func TestSetsByHand(t *testing.T) {
	affine, nine := named(t, "affine"), system(t, "9:abc,adg,def,ghi")
	for _, c := range []struct {
		what            string
		x               impl.System
		set             []int64
		disjoint, class bool
	}{
		{"the empty set", affine, nil, true, false},
		{"the empty set, no blocks", impl.System{Points: 3}, []int64{}, true, false},
		{"the empty set of 15 points", impl.System{Points: 15}, nil, true, false},
		{"the block of single", named(t, "single"), []int64{0}, true, true},
		{"a block of four points", system(t, "4:bcd"), []int64{0}, true, false},
		{"one block", affine, []int64{11}, true, false},
		{"two blocks that do not meet", affine, []int64{0, 10}, true, false},
		{"two blocks that meet in their first points", affine, []int64{0, 1}, false, false},
		{"two blocks that meet in their last points", affine, []int64{2, 11}, false, false},
		{"two blocks that meet in the last and first point", system(t, "5:abc,cde"), []int64{0, 1}, false, false},
		{"a class", affine, []int64{0, 10, 11}, true, true},
		{"another class", affine, []int64{3, 4, 8}, true, true},
		{"three blocks with all points but three", affine, []int64{0, 1, 10}, false, false},
		{"first and last of three meet", affine, []int64{0, 5, 10}, false, false},
		{"the last two of three meet", system(t, "9:abc,def,dgh"), []int64{0, 1, 2}, false, false},
		{"four blocks with all points", nine, []int64{0, 1, 2, 3}, false, false},
		{"three of these", nine, []int64{0, 2, 3}, true, true},
		{"all blocks of fano", named(t, "fano"), []int64{0, 1, 2, 3, 4, 5, 6}, false, false},
		{"a near class", named(t, "cyclic13"), []int64{0, 13, 17, 22}, true, false},
		{"a class of 15 points", named(t, "projective15"), []int64{0, 19, 25, 30, 32}, true, true},
		{"a class of 15 points without the last block", named(t, "projective15"), []int64{0, 19, 25, 30}, true, false},
		{"five blocks of 15 points that meet", named(t, "projective15"), []int64{0, 19, 25, 30, 33}, false, false},
		{"a class of six points", system(t, "6:abf,cde"), []int64{0, 1}, true, true},
		{"two blocks of seven points", system(t, "7:abf,cde"), []int64{0, 1}, true, false},
	} {
		yes, code := impl.AreDisjoint(c.x, c.set)
		wantValue(t, "AreDisjoint, "+c.what, yes, code, c.disjoint, impl.ErrNone)
		yes, code = impl.IsClass(c.x, c.set)
		wantValue(t, "IsClass, "+c.what, yes, code, c.class, impl.ErrNone)
	}
}

func TestClassListAndCountClasses(t *testing.T) {
	for _, plain := range classSystems(t) {
		x, guard := guardSystem(plain)
		want := plainClasses(plain, 0)
		list, code := impl.ClassList(x)
		wantRows(t, "ClassList", list, code, want, impl.ErrNone)
		checkOwnMemory(t, "ClassList", list)
		classes, near, code := impl.CountClasses(x)
		wantValue(t, "the classes of CountClasses", classes, code, int64(len(want)), impl.ErrNone)
		wantValue(t, "the near classes of CountClasses", near, code, int64(len(plainClasses(plain, 1))), impl.ErrNone)
		guard.check(t, "ClassList or CountClasses")
	}
}

func TestClassesByHand(t *testing.T) {
	for _, c := range []struct {
		what string
		x    impl.System
		want [][]int64
		near int64
	}{
		{"single", named(t, "single"), [][]int64{{0}}, 0},
		{"no blocks of 3 points", impl.System{Points: 3}, nil, 0},
		{"no blocks of 4 points", impl.System{Points: 4}, nil, 0},
		{"no blocks of 15 points", impl.System{Points: 15}, nil, 0},
		{"a block of 4 points", system(t, "4:acd"), nil, 1},
		{"a block of 5 points", system(t, "5:acd"), nil, 0},
		{"a block of 6 points", system(t, "6:acd"), nil, 0},
		{"two blocks of 6 points", system(t, "6:acf,bde"), [][]int64{{0, 1}}, 0},
		{"two blocks of 7 points", system(t, "7:acf,bde"), nil, 1},
		{"two blocks of 8 points", system(t, "8:acf,bde"), nil, 0},
		{"two of three blocks of 7 points", system(t, "7:abc,adf,beg"), nil, 1},
		{"the square of 3 and a point", onMore(squareSystem(ruledSquare(3, 1, 1, 0)), 10), nil, 3},
		{"the square of 3 and two points", onMore(squareSystem(ruledSquare(3, 1, 1, 0)), 11), nil, 0},
		{"fano", named(t, "fano"), nil, 0},
		{"affine", named(t, "affine"), [][]int64{{0, 10, 11}, {1, 5, 9}, {2, 6, 7}, {3, 4, 8}}, 0},
		{"cyclic13", named(t, "cyclic13"), nil, 13},
		{"the square of xor", squareSystem(kleinSquare()), [][]int64{{0, 6, 11, 13}, {0, 7, 9, 14}, {1, 6, 8, 15}, {1, 7, 10, 12}, {2, 4, 9, 15}, {2, 5, 11, 12}, {3, 4, 10, 13}, {3, 5, 8, 14}}, 0},
		{"the square of xor and a point", onMore(squareSystem(kleinSquare()), 13), nil, 8},
		{"the square of 4", squareSystem(ruledSquare(4, 1, 1, 0)), nil, 0},
		{"the square of 3", squareSystem(ruledSquare(3, 1, 1, 0)), [][]int64{{0, 4, 8}, {1, 5, 6}, {2, 3, 7}}, 0},
		{"the square of 2", squareSystem(ruledSquare(2, 1, 1, 0)), nil, 0},
	} {
		list, code := impl.ClassList(c.x)
		wantRows(t, "ClassList of "+c.what, list, code, c.want, impl.ErrNone)
		classes, near, code := impl.CountClasses(c.x)
		wantValue(t, "the classes of "+c.what, classes, code, int64(len(c.want)), impl.ErrNone)
		wantValue(t, "the near classes of "+c.what, near, code, c.near, impl.ErrNone)
	}
	// The numbers of the spaces and of the square of 5 are those of the literature.
	for _, c := range []struct {
		what string
		x    impl.System
		want int64
	}{
		{"projective15", named(t, "projective15"), 56},
		{"cyclic15", named(t, "cyclic15"), 56},
		{"the square of 5", squareSystem(ruledSquare(5, 1, 1, 0)), 15},
	} {
		classes, near, code := impl.CountClasses(c.x)
		wantValue(t, "the classes of "+c.what, classes, code, c.want, impl.ErrNone)
		wantValue(t, "the near classes of "+c.what, near, code, 0, impl.ErrNone)
	}
}

func TestMostDisjointAndCountDisjoint(t *testing.T) {
	for _, plain := range classSystems(t) {
		x, guard := guardSystem(plain)
		list, code := impl.MostDisjoint(x)
		wantList(t, "MostDisjoint", list, code, plainMost(plain), impl.ErrNone)
		spoil(list, -9)
		for k, sets := range plainDisjoint(plain)[:6] {
			n, code := impl.CountDisjoint(x, int64(k))
			wantValue(t, "CountDisjoint", n, code, int64(len(sets)), impl.ErrNone)
		}
		guard.check(t, "MostDisjoint or CountDisjoint")
	}
}

func TestDisjointByHand(t *testing.T) {
	for _, c := range []struct {
		what   string
		x      impl.System
		most   []int64
		counts []int64
	}{
		{"no blocks of 3 points", impl.System{Points: 3}, nil, []int64{1, 0, 0, 0, 0, 0}},
		{"no blocks of 15 points", impl.System{Points: 15}, nil, []int64{1, 0, 0, 0, 0, 0}},
		{"single", named(t, "single"), []int64{0}, []int64{1, 1, 0, 0, 0, 0}},
		{"fano", named(t, "fano"), []int64{0}, []int64{1, 7, 0, 0, 0, 0}},
		{"affine", named(t, "affine"), []int64{0, 10, 11}, []int64{1, 12, 12, 4, 0, 0}},
		{"cyclic13", named(t, "cyclic13"), []int64{0, 13, 17, 22}, []int64{1, 26, 130, 130, 13, 0}},
		{"projective15", named(t, "projective15"), []int64{0, 19, 25, 30, 32}, []int64{1, 35, 280, 560, 280, 56}},
		{"two blocks that meet", system(t, "9:abc,ade"), []int64{0}, []int64{1, 2, 0, 0, 0, 0}},
		{"two blocks that do not", system(t, "9:abc,def"), []int64{0, 1}, []int64{1, 2, 1, 0, 0, 0}},
		{"first block meets all others", system(t, "9:abc,adg,beh,cfi"), []int64{1, 2, 3}, []int64{1, 4, 3, 1, 0, 0}},
		{"two greatest sets", system(t, "9:abc,adg,bdh,efi"), []int64{0, 3}, []int64{1, 4, 3, 0, 0, 0}},
		{"five blocks of 15 points", system(t, "15:abc,def,ghi,jkl,mno"), []int64{0, 1, 2, 3, 4}, []int64{1, 5, 10, 10, 5, 1}},
	} {
		list, code := impl.MostDisjoint(c.x)
		wantList(t, "MostDisjoint of "+c.what, list, code, c.most, impl.ErrNone)
		for k, want := range c.counts {
			n, code := impl.CountDisjoint(c.x, int64(k))
			wantValue(t, "CountDisjoint of "+c.what, n, code, want, impl.ErrNone)
		}
	}
}

func TestMeetingBlocksAndClassesWith(t *testing.T) {
	for _, plain := range classSystems(t) {
		x, guard := guardSystem(plain)
		classes := plainClasses(plain, 0)
		for i := range int64(len(plain.Blocks)) {
			var meeting []int64
			for k := range int64(len(plain.Blocks)) {
				if k != i && !plainIsDisjoint(plain, []int64{i, k}) {
					meeting = append(meeting, k)
				}
			}
			list, code := impl.MeetingBlocks(x, i)
			wantList(t, "MeetingBlocks", list, code, meeting, impl.ErrNone)
			spoil(list, -9)
			isWithout := func(class []int64) bool { return !slices.Contains(class, i) }
			with, code := impl.ClassesWith(x, i)
			wantRows(t, "ClassesWith", with, code, slices.DeleteFunc(slices.Clone(classes), isWithout), impl.ErrNone)
			checkOwnMemory(t, "ClassesWith", with)
		}
		guard.check(t, "MeetingBlocks or ClassesWith")
	}
}

func TestBlocksByHand(t *testing.T) {
	for _, c := range []struct {
		what    string
		x       impl.System
		i       int64
		meeting []int64
		classes [][]int64
	}{
		{"single", named(t, "single"), 0, nil, [][]int64{{0}}},
		{"fano, first block", named(t, "fano"), 0, []int64{1, 2, 3, 4, 5, 6}, nil},
		{"fano, last block", named(t, "fano"), 6, []int64{0, 1, 2, 3, 4, 5}, nil},
		{"affine, first block", named(t, "affine"), 0, []int64{1, 2, 3, 4, 5, 6, 7, 8, 9}, [][]int64{{0, 10, 11}}},
		{"affine, block 4", named(t, "affine"), 4, []int64{0, 1, 2, 5, 6, 7, 9, 10, 11}, [][]int64{{3, 4, 8}}},
		{"affine, last block", named(t, "affine"), 11, []int64{1, 2, 3, 4, 5, 6, 7, 8, 9}, [][]int64{{0, 10, 11}}},
		{"blocks that do not meet", system(t, "9:abc,def,ghi"), 1, nil, [][]int64{{0, 1, 2}}},
		{"a block of no class", system(t, "9:abc,adg,def,ghi"), 1, []int64{0, 2, 3}, nil},
		{"the square of xor", squareSystem(kleinSquare()), 15, []int64{0, 3, 5, 7, 10, 11, 12, 13, 14}, [][]int64{{1, 6, 8, 15}, {2, 4, 9, 15}}},
	} {
		list, code := impl.MeetingBlocks(c.x, c.i)
		wantList(t, "MeetingBlocks, "+c.what, list, code, c.meeting, impl.ErrNone)
		classes, code := impl.ClassesWith(c.x, c.i)
		wantRows(t, "ClassesWith, "+c.what, classes, code, c.classes, impl.ErrNone)
	}
	with, code := impl.ClassesWith(named(t, "projective15"), 34)
	wantValue(t, "the number of ClassesWith of projective15", len(with), code, 8, impl.ErrNone)
}

func TestFirstResolutionAndCountResolutions(t *testing.T) {
	for _, plain := range classSystems(t) {
		x, guard := guardSystem(plain)
		all := plainResolutions(plain)
		var want [][]int64
		wantCode := int64(impl.ErrNotFound)
		if len(all) > 0 {
			want, wantCode = all[0], impl.ErrNone
		}
		first, code := impl.FirstResolution(x)
		wantRows(t, "FirstResolution", first, code, want, wantCode)
		checkOwnMemory(t, "FirstResolution", first)
		n, code := impl.CountResolutions(x)
		wantValue(t, "CountResolutions", n, code, int64(len(all)), impl.ErrNone)
		guard.check(t, "FirstResolution or CountResolutions")
	}
}

func TestResolutionsByHand(t *testing.T) {
	xor := squareSystem(kleinSquare())
	affine := [][]int64{{0, 10, 11}, {1, 5, 9}, {2, 6, 7}, {3, 4, 8}}
	for _, c := range []struct {
		what  string
		x     impl.System
		first [][]int64
		count int64
	}{
		{"no blocks of 3 points", impl.System{Points: 3}, nil, 1},
		{"no blocks of 7 points", impl.System{Points: 7}, nil, 1},
		{"no blocks of 15 points", impl.System{Points: 15}, nil, 1},
		{"single", named(t, "single"), [][]int64{{0}}, 1},
		{"affine", named(t, "affine"), affine, 1},
		{"two blocks of 6 points", system(t, "6:acf,bde"), [][]int64{{0, 1}}, 1},
		{"a class of affine", onlyBlocks(named(t, "affine"), affine[2]), [][]int64{{0, 1, 2}}, 1},
		{"the square of 3", squareSystem(ruledSquare(3, 1, 1, 0)), [][]int64{{0, 4, 8}, {1, 5, 6}, {2, 3, 7}}, 1},
		{"the square of xor", xor, [][]int64{{0, 6, 11, 13}, {1, 7, 10, 12}, {2, 4, 9, 15}, {3, 5, 8, 14}}, 2},
	} {
		first, code := impl.FirstResolution(c.x)
		wantRows(t, "FirstResolution of "+c.what, first, code, c.first, impl.ErrNone)
		n, code := impl.CountResolutions(c.x)
		wantValue(t, "CountResolutions of "+c.what, n, code, c.count, impl.ErrNone)
	}
	for _, c := range []struct {
		what string
		x    impl.System
	}{
		{"fano", named(t, "fano")},
		{"cyclic13", named(t, "cyclic13")},
		{"a block of 4 points", system(t, "4:abc")},
		{"a near class", system(t, "7:acf,bde")},
		{"a block of 6 points", system(t, "6:abc")},
		{"a block beside a class", system(t, "9:abc,adg,def,ghi")},
		{"a block before a class", system(t, "9:abd,acf,beg,dhi")},
		{"affine without a block", system(t, "9:abc,adg,aei,afh,bdi,beh,bfg,cdh,ceg,cfi,def")},
		{"the square of 4", squareSystem(ruledSquare(4, 1, 1, 0))},
	} {
		first, code := impl.FirstResolution(c.x)
		wantRows(t, "FirstResolution of "+c.what, first, code, nil, impl.ErrNotFound)
		n, code := impl.CountResolutions(c.x)
		wantValue(t, "CountResolutions of "+c.what, n, code, 0, impl.ErrNone)
	}
}

// TestIsResolution gives lists of sets that are resolutions, or not far from one.
func TestIsResolution(t *testing.T) {
	random := randomNumbers(54)
	for _, x := range classSystems(t) {
		wantResolution(t, "no classes", x, nil, len(x.Blocks) == 0, impl.ErrNone)
		list := plainClasses(x, 0)
		for range min(len(list), 10) {
			var some [][]int64
			for _, k := range random.order(len(list))[:min(len(list), len(x.Blocks)/int(x.Points/3))] {
				some = append(some, list[k])
			}
			wantResolution(t, "some classes in any order", x, some, plainIsResolution(x, some), impl.ErrNone)
			wantResolution(t, "some classes", x, inOrder(some), plainIsResolution(x, inOrder(some)), impl.ErrNone)
		}
		wantResolution(t, "all classes", x, list, plainIsResolution(x, list), impl.ErrNone)
		greedy := greedyResolution(x)
		wantResolution(t, "greedy classes", x, greedy, plainIsResolution(x, greedy), impl.ErrNone)
		for k, classes := range plainResolutions(x) {
			// Most resolutions of a system look alike, so that some of them are enough.
			if k%20 == 0 && len(classes) > 0 {
				wantResolution(t, "a resolution", x, classes, true, impl.ErrNone)
				checkSpoiledResolutions(t, x, classes)
			}
		}
	}
}

// checkSpoiledResolutions changes a resolution so that it is none.
func checkSpoiledResolutions(t *testing.T, x impl.System, classes [][]int64) {
	t.Helper()
	last := len(classes) - 1
	wantNone := func(what string, list ...[]int64) {
		t.Helper()
		wantResolution(t, what, x, list, false, impl.ErrNone)
	}
	wantNone("without the last class", classes[:last]...)
	wantNone("without the first class", classes[1:]...)
	wantNone("the last class twice", slices.Concat(classes, classes[last:])...)
	wantNone("the first class twice", slices.Concat(classes[:1], classes)...)
	wantNone("all classes twice", slices.Concat(classes, classes)...)
	wantNone("the first class a thousand times", slices.Repeat(classes[:1], 1000)...)
	wantNone("the empty set before", slices.Concat([][]int64{nil}, classes)...)
	wantNone("the empty set behind", slices.Concat(classes, [][]int64{{}})...)
	for k, class := range classes {
		changed := func(i int, set []int64) [][]int64 {
			list := slices.Clone(classes)
			list[i] = set
			return list
		}
		wantNone("a block missing", changed(k, class[1:])...)
		wantNone("all blocks of a class missing", changed(k, nil)...)
		wantNone("a class in two parts", slices.Concat(classes[:k], [][]int64{class[:1], class[1:]}, classes[k+1:])...)
		if k > 0 {
			wantNone("a class twice, and one missing", changed(k, classes[k-1])...)
			exchanged := changed(k, classes[k-1])
			exchanged[k-1] = class
			wantNone("two classes exchanged", exchanged...)
			both := slices.Sorted(slices.Values(slices.Concat(classes[k-1], class)))
			wantNone("two classes in one", slices.Concat(classes[:k-1], [][]int64{both}, classes[k+1:])...)
		}
	}
}

func TestIsResolutionByHand(t *testing.T) {
	affine, none := named(t, "affine"), impl.System{Points: 9}
	first, second, third, last := []int64{0, 10, 11}, []int64{1, 5, 9}, []int64{2, 6, 7}, []int64{3, 4, 8}
	for _, c := range []struct {
		what    string
		x       impl.System
		classes [][]int64
		want    bool
	}{
		{"affine", affine, [][]int64{first, second, third, last}, true},
		{"affine, the last two exchanged", affine, [][]int64{first, second, last, third}, false},
		{"affine, the first one at the end", affine, [][]int64{second, third, last, first}, false},
		{"affine, three classes", affine, [][]int64{first, second, third}, false},
		{"affine, a class twice", affine, [][]int64{first, second, third, third, last}, false},
		{"affine, a class twice, one missing", affine, [][]int64{first, second, second, last}, false},
		{"affine, blocks that meet", affine, [][]int64{{0, 9, 10}, {1, 5, 11}, third, last}, false},
		{"affine, all blocks in one set", affine, [][]int64{{0, 1, 2, 3, 4, 5, 6, 7, 8, 9, 10, 11}}, false},
		{"affine, each block in a set", affine, [][]int64{{0}, {1}, {2}, {3}, {4}, {5}, {6}, {7}, {8}, {9}, {10}, {11}}, false},
		{"affine, no classes", affine, nil, false},
		{"affine, the empty set", affine, [][]int64{{}}, false},
		{"single", named(t, "single"), [][]int64{{0}}, true},
		{"single, no classes", named(t, "single"), nil, false},
		{"single, the class twice", named(t, "single"), [][]int64{{0}, {0}}, false},
		{"no blocks", none, nil, true},
		{"no blocks, no classes", none, [][]int64{}, true},
		{"no blocks, the empty set", none, [][]int64{{}}, false},
		{"no blocks, the empty set, nil", none, [][]int64{nil}, false},
		{"no blocks of 7 points", impl.System{Points: 7}, nil, true},
		{"no blocks of 3 points", impl.System{Points: 3}, nil, true},
		{"no blocks of 15 points", impl.System{Points: 15}, nil, true},
		{"a near class", system(t, "7:abc,def"), [][]int64{{0, 1}}, false},
		{"disjoint blocks, three points left", system(t, "9:abc,def"), [][]int64{{0, 1}}, false},
		{"one class of 9 points", system(t, "9:abc,def,ghi"), [][]int64{{0, 1, 2}}, true},
		{"all blocks of a class, and another block", system(t, "9:abc,adg,def,ghi"), [][]int64{{0, 2, 3}}, false},
		{"all blocks, one in no class", system(t, "9:abc,adg,def,ghi"), [][]int64{{0, 2, 3}, {1}}, false},
		{"two classes that have a block in common", squareSystem(kleinSquare()), [][]int64{{0, 6, 11, 13}, {0, 7, 9, 14}, {2, 4, 9, 15}, {3, 5, 8, 14}}, false},
		{"the other resolution", squareSystem(kleinSquare()), [][]int64{{0, 7, 9, 14}, {1, 6, 8, 15}, {2, 5, 11, 12}, {3, 4, 10, 13}}, true},
	} {
		wantResolution(t, c.what, c.x, c.classes, c.want, impl.ErrNone)
	}
}

// TestClassesOfInvalidSystems gives good and bad other arguments too: ErrInvalid comes before
// ErrRange, ErrNotFound and ErrLimit.
func TestClassesOfInvalidSystems(t *testing.T) {
	for name, plain := range invalidSystems() {
		x, guard := guardSystem(plain)
		rows, code := impl.ClassList(x)
		wantRows(t, "ClassList of "+name, rows, code, nil, impl.ErrInvalid)
		classes, near, code := impl.CountClasses(x)
		wantList(t, "CountClasses of "+name, []int64{classes, near}, code, []int64{0, 0}, impl.ErrInvalid)
		list, code := impl.MostDisjoint(x)
		wantList(t, "MostDisjoint of "+name, list, code, nil, impl.ErrInvalid)
		rows, code = impl.FirstResolution(x)
		wantRows(t, "FirstResolution of "+name, rows, code, nil, impl.ErrInvalid)
		n, code := impl.CountResolutions(x)
		wantValue(t, "CountResolutions of "+name, n, code, 0, impl.ErrInvalid)
		for _, i := range []int64{0, 1, 5, 6, -1, 99, mostInt, leastInt} {
			wantNoNumber(t, name, x, i, impl.ErrInvalid)
			wantNoSet(t, name, x, []int64{i}, impl.ErrInvalid)
			wantNoSet(t, name, x, []int64{i, 0, i}, impl.ErrInvalid)
			wantNoNumbers(t, name, x, i, impl.ErrInvalid)
		}
		wantNoSet(t, name, x, nil, impl.ErrInvalid)
		wantResolution(t, name, x, nil, false, impl.ErrInvalid)
		wantResolution(t, name, x, [][]int64{nil, {-1}}, false, impl.ErrInvalid)
		guard.check(t, "classes of "+name)
	}
}

// wantNoSet checks what is said of a list that is no set of blocks, alone and among others.
func wantNoSet(t *testing.T, what string, plain impl.System, set []int64, wantCode int64) {
	t.Helper()
	x, guardX := guardSystem(plain)
	list := guard(set, -7)
	yes, code := impl.AreDisjoint(x, list.list)
	wantValue(t, "AreDisjoint of "+what, yes, code, false, wantCode)
	yes, code = impl.IsClass(x, list.list)
	wantValue(t, "IsClass of "+what, yes, code, false, wantCode)
	yes, code = impl.IsResolution(x, [][]int64{list.list})
	wantValue(t, "IsResolution of "+what, yes, code, false, wantCode)
	guardX.check(t, "sets of "+what)
	list.check(t, "sets of "+what)
}

// wantNoNumber checks what is said of a number that tells no block.
func wantNoNumber(t *testing.T, what string, x impl.System, i int64, wantCode int64) {
	t.Helper()
	list, code := impl.MeetingBlocks(x, i)
	wantList(t, "MeetingBlocks of "+what, list, code, nil, wantCode)
	rows, code := impl.ClassesWith(x, i)
	wantRows(t, "ClassesWith of "+what, rows, code, nil, wantCode)
}

// wantNoNumbers checks what is said of a k that no sets are counted for.
func wantNoNumbers(t *testing.T, what string, x impl.System, k int64, wantCode int64) {
	t.Helper()
	n, code := impl.CountDisjoint(x, k)
	wantValue(t, "CountDisjoint of "+what, n, code, 0, wantCode)
}

func TestClassesOutside(t *testing.T) {
	for i, x := range classSystems(t) {
		n := int64(len(x.Blocks))
		for _, bad := range outside(n) {
			wantNoNumber(t, "what is no block", x, bad, impl.ErrRange)
		}
		for _, k := range append(outside(6), 7, 35, 100) {
			wantNoNumbers(t, "a number of blocks", x, k, impl.ErrRange)
		}
		// The lists are many, and much the same for systems with as many blocks.
		if i%12 != 0 {
			continue
		}
		for _, set := range noSets(n) {
			wantNoSet(t, "what is no set", x, set, impl.ErrRange)
		}
	}
	none := impl.System{Points: 15}
	wantNoNumber(t, "no blocks", none, 0, impl.ErrRange)
	wantNoSet(t, "no blocks", none, []int64{0}, impl.ErrRange)
}

// TestResolutionsOutside gives lists with one that is no set, first and last, beside sets that are
// resolutions, or not: ErrRange comes before any result.
func TestResolutionsOutside(t *testing.T) {
	for _, x := range []impl.System{named(t, "affine"), named(t, "single"), squareSystem(kleinSquare()), named(t, "fano"), {Points: 9}} {
		classes := greedyResolution(x)
		for _, set := range noSets(int64(len(x.Blocks))) {
			bad := [][]int64{set}
			wantResolution(t, "no set first", x, slices.Concat(bad, classes), false, impl.ErrRange)
			wantResolution(t, "no set last", x, slices.Concat(classes, bad), false, impl.ErrRange)
			wantResolution(t, "no set behind the empty set", x, slices.Concat([][]int64{{}}, bad), false, impl.ErrRange)
			wantResolution(t, "no set behind a class twice", x, slices.Concat(classes, classes, bad), false, impl.ErrRange)
		}
	}
}

// TestClassesAgain calls functions twice, with the first results overwritten: nothing is kept.
func TestClassesAgain(t *testing.T) {
	x := named(t, "affine")
	want := [][]int64{{0, 10, 11}, {1, 5, 9}, {2, 6, 7}, {3, 4, 8}}
	for range 2 {
		rows, code := impl.ClassList(x)
		wantRows(t, "ClassList", rows, code, want, impl.ErrNone)
		checkOwnMemory(t, "ClassList", rows)
		rows, code = impl.FirstResolution(x)
		wantRows(t, "FirstResolution", rows, code, want, impl.ErrNone)
		checkOwnMemory(t, "FirstResolution", rows)
		rows, code = impl.ClassesWith(x, 4)
		wantRows(t, "ClassesWith", rows, code, want[3:], impl.ErrNone)
		checkOwnMemory(t, "ClassesWith", rows)
		list, code := impl.MostDisjoint(x)
		wantList(t, "MostDisjoint", list, code, want[0], impl.ErrNone)
		spoil(list, -9)
		list, code = impl.MeetingBlocks(x, 0)
		wantList(t, "MeetingBlocks", list, code, []int64{1, 2, 3, 4, 5, 6, 7, 8, 9}, impl.ErrNone)
		spoil(list, -9)
		wantResolution(t, "affine", x, want, true, impl.ErrNone)
	}
}

// callsOfClasses calls all functions that look for sets of blocks.
func callsOfClasses(x impl.System) {
	impl.ClassList(x)
	impl.CountClasses(x)
	impl.MostDisjoint(x)
	impl.CountDisjoint(x, 2)
	impl.ClassesWith(x, 0)
	impl.FirstResolution(x)
	impl.CountResolutions(x)
}

// TestClassesLeaveNothing checks that no goroutine goes on behind the calls.
func TestClassesLeaveNothing(t *testing.T) {
	before := runtime.NumGoroutine()
	for _, name := range []string{"single", "fano", "affine", "cyclic13", "projective15"} {
		x := named(t, name)
		for range 20 {
			callsOfClasses(x)
		}
	}
	callsOfClasses(impl.System{})
	callsOfClasses(impl.System{Points: 15})
	wantNoGoroutines(t, before)
}

// TestClassesAtOnce asks for classes from several sides at once, as nothing is kept between calls.
func TestClassesAtOnce(t *testing.T) {
	x := named(t, "projective15")
	want, _ := impl.FirstResolution(x)
	var group sync.WaitGroup
	for range 8 {
		group.Go(func() {
			first, code := impl.FirstResolution(x)
			wantRows(t, "FirstResolution at once", first, code, want, impl.ErrNone)
			n, code := impl.CountResolutions(x)
			wantValue(t, "CountResolutions at once", n, code, 240, impl.ErrNone)
		})
	}
	group.Wait()
}
