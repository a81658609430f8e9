package tests

import (
	"slices"
	"sync"
	"testing"

	"loop.example/g01355/impl"
)

// TestSampleSymmetry checks that the samples have what the tests of symmetry need.
func TestSampleSymmetry(t *testing.T) {
	if impl.MaxAutomorphisms != 500 {
		t.Errorf("MaxAutomorphisms = %d", impl.MaxAutomorphisms)
	}
	orders, orbits := map[int]bool{}, map[int]bool{}
	around, notAround, transitiveOnly := 0, 0, 0
	for _, s := range symmetricSystems(t) {
		count := len(plainOrbits(s.x.Points, s.all))
		orders[len(s.all)], orbits[count] = true, true
		if _, code := plainAround(s.all); code == impl.ErrNone {
			around++
			continue
		}
		notAround++
		if count == 1 {
			transitiveOnly++
		}
	}
	wantKeys(t, "automorphisms", orders, 1, 2, 3, 4, 5, 6, 8, 12, 21, 24, 32, 36, 39, 60, 96, 168, 192, 288, 432, 20160)
	wantKeys(t, "orbits of points", orbits, 1, 2, 3, 4, 5, 7, 9, 11, 15)
	if around < 8 || notAround < 30 || transitiveOnly < 2 {
		t.Errorf("samples: around %d, not around %d, not around with one orbit %d", around, notAround, transitiveOnly)
	}
}

func TestLeadsTo(t *testing.T) {
	random := randomNumbers(62)
	for _, x := range mixedSystems(t) {
		p, q := random.order(int(x.Points)), random.order(int(x.Points))
		y := renumbered(x, p)
		wantLeads(t, "renumbered", x, y, p, true, impl.ErrNone)
		wantLeads(t, "back", y, x, inverseOf(p), true, impl.ErrNone)
		wantLeads(t, "the identity", x, x, identity(x.Points), true, impl.ErrNone)
		for _, list := range [][]int64{inverseOf(p), q, identity(x.Points)} {
			wantLeads(t, "another list", x, y, list, sameSystem(renumbered(x, list), y), impl.ErrNone)
			wantLeads(t, "a list of one system", x, x, list, sameSystem(renumbered(x, list), x), impl.ErrNone)
		}
		if n := len(x.Blocks); n > 0 {
			less := impl.System{Points: y.Points, Blocks: y.Blocks[:n-1]}
			wantLeads(t, "to a system without the last block", x, less, p, false, impl.ErrNone)
			wantLeads(t, "from a system without the last block", less, x, inverseOf(p), false, impl.ErrNone)
		}
		if x.Points < impl.MaxPoints {
			more := onMore(y, y.Points+1)
			wantLeads(t, "to more points", x, more, p, false, impl.ErrNone)
			wantLeads(t, "from more points", more, x, append(inverseOf(p), x.Points), false, impl.ErrNone)
		}
	}
}

// TestLeadsToAll takes all lists of single and fano.
func TestLeadsToAll(t *testing.T) {
	for _, name := range []string{"single", "fano"} {
		x := named(t, name)
		all := plainRenumberings(x, x)
		count := 0
		for _, p := range plainRenumberings(impl.System{Points: x.Points}, impl.System{Points: x.Points}) {
			yes, code := impl.LeadsTo(x, x, p)
			_, want := slices.BinarySearchFunc(all, p, slices.Compare)
			wantValue(t, "LeadsTo of "+name, yes, code, want, impl.ErrNone)
			count++
		}
		wantValue(t, "lists of "+name, count, impl.ErrNone, map[string]int{"single": 6, "fano": 5040}[name], impl.ErrNone)
	}
}

func TestLeadsToByHand(t *testing.T) {
	fano, three, seven := named(t, "fano"), identity(3), identity(7)
	turn := []int64{1, 2, 3, 4, 5, 6, 0}
	for _, c := range []struct {
		what string
		x, y impl.System
		list []int64
		want bool
		code int64
	}{
		{"fano turned", fano, fano, turn, true, impl.ErrNone},
		{"fano, two points exchanged", fano, fano, []int64{1, 0, 2, 3, 4, 5, 6}, false, impl.ErrNone},
		{"single, two points exchanged", named(t, "single"), named(t, "single"), []int64{1, 0, 2}, true, impl.ErrNone},
		{"a block turned", system(t, "7:abc"), system(t, "7:bcd"), turn, true, impl.ErrNone},
		{"a block turned, back", system(t, "7:bcd"), system(t, "7:abc"), turn, false, impl.ErrNone},
		{"a block turned around", system(t, "7:cdg"), system(t, "7:ade"), turn, true, impl.ErrNone},
		{"no blocks", impl.System{Points: 7}, impl.System{Points: 7}, turn, true, impl.ErrNone},
		{"no blocks of 15 points", impl.System{Points: 15}, impl.System{Points: 15}, identity(15), true, impl.ErrNone},
		{"no blocks to a block", impl.System{Points: 7}, system(t, "7:abc"), seven, false, impl.ErrNone},
		{"a block to no blocks", system(t, "7:abc"), impl.System{Points: 7}, seven, false, impl.ErrNone},
		{"two blocks to one", system(t, "7:abc,ade"), system(t, "7:abc"), seven, false, impl.ErrNone},
		{"one block to two", system(t, "7:abc"), system(t, "7:abc,ade"), seven, false, impl.ErrNone},
		{"seven points to eight", system(t, "7:abc"), system(t, "8:abc"), seven, false, impl.ErrNone},
		{"eight points to seven", system(t, "8:abc"), system(t, "7:abc"), identity(8), false, impl.ErrNone},
		{"no blocks, other points", impl.System{Points: 3}, impl.System{Points: 15}, three, false, impl.ErrNone},
		{"a list of the second system", system(t, "7:abc"), system(t, "8:abc"), identity(8), false, impl.ErrRange},
		{"a list of the second system, back", system(t, "8:abc"), system(t, "7:abc"), seven, false, impl.ErrRange},
		{"a list of no points", named(t, "single"), fano, nil, false, impl.ErrRange},
	} {
		wantLeads(t, c.what, c.x, c.y, c.list, c.want, c.code)
	}
}

func TestLeadsToOutside(t *testing.T) {
	for _, x := range []impl.System{named(t, "single"), named(t, "fano"), named(t, "projective15"), {Points: 3}, {Points: 15}, system(t, "4:abc"), system(t, "8:abc,ade")} {
		for _, list := range noRenumberings(x.Points) {
			wantLeads(t, "no renumbering", x, x, list, false, impl.ErrRange)
			wantLeads(t, "no renumbering, other points", x, impl.System{Points: 14}, list, false, impl.ErrRange)
		}
	}
}

// wantFirst compares what is found for two full systems with the first renumbering of the plain search.
func wantFirst(t *testing.T, what string, x, y impl.System) {
	t.Helper()
	if all := plainRenumberings(x, y); len(all) > 0 {
		wantFound(t, what, x, y, all[0], impl.ErrNone)
		return
	}
	wantFound(t, what, x, y, nil, impl.ErrNotFound)
}

func TestFindRenumberingAndAreIsomorphic(t *testing.T) {
	random := randomNumbers(63)
	for _, x := range kindsOfFulls(t) {
		y, z := renumbered(x, random.order(int(x.Points))), renumbered(x, random.order(int(x.Points)))
		wantFound(t, "the same system", x, x, identity(x.Points), impl.ErrNone)
		wantFirst(t, "renumbered", x, y)
		wantFirst(t, "renumbered, back", y, x)
		wantFirst(t, "both renumbered", y, z)
	}
	for _, y := range fulls(t) {
		wantFound(t, "the same system", y, y, identity(y.Points), impl.ErrNone)
		for _, name := range []string{"single", "fano", "affine", "cyclic13", "cyclic15"} {
			wantFirst(t, "a system with a name", named(t, name), y)
		}
	}
}

// TestKindsAreNotIsomorphic takes all two systems of different kinds, of as many points or not.
func TestKindsAreNotIsomorphic(t *testing.T) {
	random := randomNumbers(64)
	kinds := kindsOfFulls(t)
	for i, x := range kinds {
		for k, y := range kinds {
			if i != k {
				wantFound(t, "another kind", x, renumbered(y, random.order(int(y.Points))), nil, impl.ErrNotFound)
			}
		}
	}
}

func TestFoundByHand(t *testing.T) {
	fano, affine := named(t, "fano"), named(t, "affine")
	for _, c := range []struct {
		what string
		x, y impl.System
		want []int64
	}{
		{"single", named(t, "single"), named(t, "single"), []int64{0, 1, 2}},
		{"fano", fano, fano, identity(7)},
		{"fano and the numbers in base 2", fano, system(t, "7:abc,ade,afg,bdf,beg,cdg,cef"), []int64{0, 1, 3, 2, 5, 6, 4}},
		{"the numbers in base 2 and fano", system(t, "7:abc,ade,afg,bdf,beg,cdg,cef"), fano, []int64{0, 1, 3, 2, 6, 4, 5}},
		{"affine and the same turned", affine, renumbered(affine, []int64{1, 2, 3, 4, 5, 6, 7, 8, 0}), []int64{0, 1, 5, 2, 6, 7, 4, 8, 3}},
		{"cyclic13", named(t, "cyclic13"), named(t, "cyclic13"), identity(13)},
		{"cyclic15 and projective15", named(t, "cyclic15"), named(t, "projective15"), []int64{0, 1, 3, 7, 2, 5, 11, 10, 4, 9, 6, 13, 14, 12, 8}},
	} {
		all := plainRenumberings(c.x, c.y)
		wantList(t, "the first plain renumbering, "+c.what, all[0], impl.ErrNone, c.want, impl.ErrNone)
		wantFound(t, c.what, c.x, c.y, c.want, impl.ErrNone)
	}
	wantFound(t, "as many points", named(t, "cyclic13"), thirteen(t), nil, impl.ErrNotFound)
	wantFound(t, "other points", named(t, "single"), fano, nil, impl.ErrNotFound)
	wantFound(t, "fewer points", named(t, "projective15"), named(t, "cyclic13"), nil, impl.ErrNotFound)
}

func TestAutomorphisms(t *testing.T) {
	for _, s := range symmetricSystems(t) {
		x, guard := guardSystem(s.x)
		n, code := impl.CountAutomorphisms(x)
		wantValue(t, "CountAutomorphisms", n, code, int64(len(s.all)), impl.ErrNone)
		list, code := impl.AutomorphismsOf(x)
		if len(s.all) > impl.MaxAutomorphisms {
			wantRows(t, "AutomorphismsOf of too many", list, code, nil, impl.ErrLimit)
		} else {
			wantRows(t, "AutomorphismsOf", list, code, s.all, impl.ErrNone)
		}
		checkOwnMemory(t, "AutomorphismsOf", list)
		kept, code := impl.KeptNumbers(x)
		wantList(t, "KeptNumbers", kept, code, plainKept(s.x.Points, s.all), impl.ErrNone)
		around, code := impl.GoesAround(x)
		want, wantCode := plainAround(s.all)
		wantList(t, "GoesAround", around, code, want, wantCode)
		guard.check(t, "automorphisms")
	}
}

func TestOrbitsAndStabilisers(t *testing.T) {
	for _, s := range symmetricSystems(t) {
		x, guard := guardSystem(s.x)
		rows, code := impl.PointOrbits(x)
		wantRows(t, "PointOrbits", rows, code, plainOrbits(s.x.Points, s.all), impl.ErrNone)
		checkOwnMemory(t, "PointOrbits", rows)
		rows, code = impl.BlockOrbits(x)
		wantRows(t, "BlockOrbits", rows, code, plainOrbits(int64(len(s.x.Blocks)), plainBlockMaps(s.x, s.all)), impl.ErrNone)
		checkOwnMemory(t, "BlockOrbits", rows)
		for p := range s.x.Points {
			// All points of a system with one orbit are alike, so that some of them are enough.
			if len(s.all) > impl.MaxAutomorphisms && p%5 != 0 {
				continue
			}
			moves := func(list []int64) bool { return list[p] != p }
			want := len(slices.DeleteFunc(slices.Clone(s.all), moves))
			n, code := impl.StabiliserNumber(x, p)
			wantValue(t, "StabiliserNumber", n, code, int64(want), impl.ErrNone)
		}
		guard.check(t, "orbits")
	}
}

func TestAutomorphismsByHand(t *testing.T) {
	threefold := plainThreefold(ruledSquare(5, 3, 3, 0))
	for _, c := range []struct {
		what   string
		x      impl.System
		count  int64
		kept   []int64
		around []int64
	}{
		{"single", named(t, "single"), 6, []int64{2, 3, 0, 1}, []int64{1, 2, 0}},
		{"fano", named(t, "fano"), 168, []int64{48, 98, 0, 21, 0, 0, 0, 1}, []int64{1, 2, 3, 4, 5, 6, 0}},
		{"affine", named(t, "affine"), 432, []int64{128, 243, 0, 60, 0, 0, 0, 0, 0, 1}, nil},
		{"cyclic13", named(t, "cyclic13"), 39, []int64{12, 26, 0, 0, 0, 0, 0, 0, 0, 0, 0, 0, 0, 1}, []int64{1, 2, 3, 4, 5, 6, 7, 8, 9, 10, 11, 12, 0}},
		{"another system of 13 points", thirteen(t), 6, []int64{0, 2, 0, 3, 0, 0, 0, 0, 0, 0, 0, 0, 0, 1}, nil},
		{"cyclic15", named(t, "cyclic15"), 20160, []int64{5824, 11640, 0, 2590, 0, 0, 0, 105, 0, 0, 0, 0, 0, 0, 0, 1}, []int64{1, 2, 3, 4, 5, 6, 7, 8, 9, 10, 11, 12, 13, 14, 0}},
		{"projective15", named(t, "projective15"), 20160, []int64{5824, 11640, 0, 2590, 0, 0, 0, 105, 0, 0, 0, 0, 0, 0, 0, 1}, []int64{1, 3, 5, 7, 9, 11, 13, 2, 0, 6, 4, 10, 8, 14, 12}},
		{"a threefold system", threefold, 60, []int64{44, 0, 0, 15, 0, 0, 0, 0, 0, 0, 0, 0, 0, 0, 0, 1}, []int64{6, 7, 8, 9, 5, 11, 12, 13, 14, 10, 1, 2, 3, 4, 0}},
		{"a system with the identity only", system(t, fifteenTexts()[1]), 1, []int64{0, 0, 0, 0, 0, 0, 0, 0, 0, 0, 0, 0, 0, 0, 0, 1}, nil},
	} {
		n, code := impl.CountAutomorphisms(c.x)
		wantValue(t, "CountAutomorphisms of "+c.what, n, code, c.count, impl.ErrNone)
		kept, code := impl.KeptNumbers(c.x)
		wantList(t, "KeptNumbers of "+c.what, kept, code, c.kept, impl.ErrNone)
		wantCode := int64(impl.ErrNone)
		if c.around == nil {
			wantCode = impl.ErrNotFound
		}
		around, code := impl.GoesAround(c.x)
		wantList(t, "GoesAround of "+c.what, around, code, c.around, wantCode)
	}
	rows, code := impl.AutomorphismsOf(named(t, "single"))
	wantRows(t, "AutomorphismsOf of single", rows, code, [][]int64{{0, 1, 2}, {0, 2, 1}, {1, 0, 2}, {1, 2, 0}, {2, 0, 1}, {2, 1, 0}}, impl.ErrNone)
	rows, code = impl.AutomorphismsOf(system(t, fifteenTexts()[1]))
	wantRows(t, "AutomorphismsOf of a system with the identity only", rows, code, [][]int64{identity(15)}, impl.ErrNone)
}

// TestAutomorphismLimit takes the numbers next to the limit that there are: as TestAllFullSystems finds,
// each full system has as many automorphisms as one of kindsOfFulls.
func TestAutomorphismLimit(t *testing.T) {
	rows, code := impl.AutomorphismsOf(named(t, "affine"))
	wantValue(t, "the number of AutomorphismsOf of affine", len(rows), code, 432, impl.ErrNone)
	for _, name := range []string{"cyclic15", "projective15"} {
		rows, code := impl.AutomorphismsOf(named(t, name))
		wantRows(t, "AutomorphismsOf of "+name, rows, code, nil, impl.ErrLimit)
	}
}

func TestOrbitsByHand(t *testing.T) {
	for _, c := range []struct {
		what           string
		x              impl.System
		points, blocks [][]int64
		stabilisers    []int64
	}{
		{"single", named(t, "single"), [][]int64{{0, 1, 2}}, [][]int64{{0}}, slices.Repeat([]int64{2}, 3)},
		{"fano", named(t, "fano"), [][]int64{identity(7)}, [][]int64{identity(7)}, slices.Repeat([]int64{24}, 7)},
		{"affine", named(t, "affine"), [][]int64{identity(9)}, [][]int64{identity(12)}, slices.Repeat([]int64{48}, 9)},
		{"cyclic13", named(t, "cyclic13"), [][]int64{identity(13)}, [][]int64{
			{0, 2, 5, 6, 10, 11, 14, 15, 18, 21, 23, 24, 25},
			{1, 3, 4, 7, 8, 9, 12, 13, 16, 17, 19, 20, 22},
		}, slices.Repeat([]int64{3}, 13)},
		{"projective15", named(t, "projective15"), [][]int64{identity(15)}, [][]int64{identity(35)}, slices.Repeat([]int64{1344}, 15)},
		{"a system of three automorphisms", system(t, fifteenTexts()[3]), [][]int64{
			{0}, {1, 7, 9}, {2, 8, 10}, {3, 5, 13}, {4, 6, 14}, {11}, {12},
		}, [][]int64{
			{0, 2, 4}, {1, 3, 5}, {6}, {7, 21, 34}, {8, 25, 31}, {9}, {10, 14, 15},
			{11, 19, 29}, {12, 23, 32}, {13, 26, 28}, {16, 24, 33}, {17, 20, 30}, {18, 22, 27},
		}, []int64{3, 1, 1, 1, 1, 1, 1, 1, 1, 1, 1, 3, 3, 1, 1}},
	} {
		rows, code := impl.PointOrbits(c.x)
		wantRows(t, "PointOrbits of "+c.what, rows, code, c.points, impl.ErrNone)
		rows, code = impl.BlockOrbits(c.x)
		wantRows(t, "BlockOrbits of "+c.what, rows, code, c.blocks, impl.ErrNone)
		for p, want := range c.stabilisers {
			n, code := impl.StabiliserNumber(c.x, int64(p))
			wantValue(t, "StabiliserNumber of "+c.what, n, code, want, impl.ErrNone)
		}
	}
}

// TestSymmetryOfInvalidSystems gives good and bad other arguments too: ErrInvalid comes before ErrRange,
// ErrState and ErrNotFound.
func TestSymmetryOfInvalidSystems(t *testing.T) {
	fano := named(t, "fano")
	for name, x := range invalidSystems() {
		wantNoSymmetry(t, name, x, impl.ErrInvalid)
		for _, p := range append(outside(7), 0, 1, 2, 6, 15) {
			wantNoStabiliser(t, name, x, p, impl.ErrInvalid)
		}
		for _, list := range [][]int64{nil, identity(2), identity(7), identity(15), identity(16), {-1}} {
			wantLeads(t, name+" first", x, fano, list, false, impl.ErrInvalid)
			wantLeads(t, name+" second", fano, x, list, false, impl.ErrInvalid)
			wantLeads(t, name+" twice", x, x, list, false, impl.ErrInvalid)
		}
		for _, y := range []impl.System{fano, named(t, "cyclic15"), {Points: 7}, {Points: 15}} {
			wantFound(t, name+" first", x, y, nil, impl.ErrInvalid)
			wantFound(t, name+" second", y, x, nil, impl.ErrInvalid)
		}
		wantFound(t, name+" twice", x, x, nil, impl.ErrInvalid)
	}
}

// TestSymmetryOfPartialSystems gives points out of range too: ErrRange comes before ErrState, and
// ErrState before ErrNotFound.
func TestSymmetryOfPartialSystems(t *testing.T) {
	for _, x := range notFull(t) {
		wantNoSymmetry(t, "what is not full", x, impl.ErrState)
		for p := range x.Points {
			wantNoStabiliser(t, "what is not full", x, p, impl.ErrState)
		}
		for _, p := range outside(x.Points) {
			wantNoStabiliser(t, "what is not full, with no point", x, p, impl.ErrRange)
		}
		wantFound(t, "not full twice", x, x, nil, impl.ErrState)
		for _, name := range []string{"single", "fano", "cyclic15"} {
			wantFound(t, "not full first", x, named(t, name), nil, impl.ErrState)
			wantFound(t, "not full second", named(t, name), x, nil, impl.ErrState)
		}
	}
}

func TestStabiliserOutside(t *testing.T) {
	for _, x := range kindsOfFulls(t) {
		for _, p := range outside(x.Points) {
			wantNoStabiliser(t, "no point", x, p, impl.ErrRange)
		}
	}
}

// switchedFrom returns the given systems, and those that one gets to from them by exchanging blocks of
// Pasch, again and again, but of isomorphic ones the first one only. Only systems with as many Pasch
// and mitres at their points are compared.
func switchedFrom(t *testing.T, list ...impl.System) []impl.System {
	t.Helper()
	shapes := func(x impl.System) [30]int64 {
		var counts [30]int64
		pasch, _ := impl.PaschAtPoints(x)
		centres, _ := impl.MitreCentres(x)
		slices.Sort(pasch)
		slices.Sort(centres)
		copy(counts[:], pasch)
		copy(counts[15:], centres)
		return counts
	}
	alike := map[[30]int64][]impl.System{}
	for _, x := range list {
		alike[shapes(x)] = append(alike[shapes(x)], x)
	}
	for k := 0; k < len(list); k++ {
		for _, pasch := range plainPasch(list[k]) {
			y := exchanged(list[k], pasch)
			isNew := !slices.ContainsFunc(alike[shapes(y)], func(x impl.System) bool {
				same, code := impl.AreIsomorphic(x, y)
				return same && code == impl.ErrNone
			})
			if isNew {
				alike[shapes(y)] = append(alike[shapes(y)], y)
				list = append(list, y)
			}
		}
	}
	return list
}

// allKinds returns full systems of 3, 7, 9, 13 or 15 points, one of each kind.
func allKinds(t *testing.T, v int64) []impl.System {
	t.Helper()
	if v == 15 {
		// Threefold systems of 15 points have no Pasch: no way leads to them.
		return switchedFrom(t, named(t, "projective15"), plainThreefold(ruledSquare(5, 3, 3, 0)))
	}
	return switchedFrom(t, named(t, map[int64]string{3: "single", 7: "fano", 9: "affine", 13: "cyclic13"}[v]))
}

// TestAllFullSystems counts the full systems of each number of points by their automorphisms: v! lists
// lead each one to v! / n systems, if n lead it to itself. The numbers of systems, and of kinds of
// them, are those of the literature.
func TestAllFullSystems(t *testing.T) {
	for _, c := range []struct {
		v, lists, systems int64
		kinds             int
	}{
		{3, 6, 1, 1}, {7, 5040, 30, 1}, {9, 362880, 840, 1}, {13, 6227020800, 1197504000, 2},
		{15, 1307674368000, 60281712691200, 80},
	} {
		list := allKinds(t, c.v)
		systems := int64(0)
		for _, x := range list {
			n, code := impl.CountAutomorphisms(x)
			if code != impl.ErrNone || n < 1 || c.lists%n != 0 {
				t.Fatalf("CountAutomorphisms(%v) = %d, %d", x, n, code)
			}
			systems += c.lists / n
			if _, known := fifteenTexts()[n]; x.Points == 15 && !known {
				t.Errorf("CountAutomorphisms(%v) = %d, which is a new number", x, n)
			}
		}
		wantValue(t, "the number of kinds of full systems", len(list), impl.ErrNone, c.kinds, impl.ErrNone)
		wantValue(t, "the number of full systems", systems, impl.ErrNone, c.systems, impl.ErrNone)
	}
}

// TestSymmetryAgain calls functions twice, with the first results overwritten: nothing is kept.
func TestSymmetryAgain(t *testing.T) {
	x := named(t, "single")
	for range 2 {
		list, code := impl.FindRenumbering(x, x)
		wantList(t, "FindRenumbering", list, code, []int64{0, 1, 2}, impl.ErrNone)
		spoil(list, -9)
		rows, code := impl.AutomorphismsOf(x)
		wantRows(t, "AutomorphismsOf", rows, code, [][]int64{{0, 1, 2}, {0, 2, 1}, {1, 0, 2}, {1, 2, 0}, {2, 0, 1}, {2, 1, 0}}, impl.ErrNone)
		checkOwnMemory(t, "AutomorphismsOf", rows)
		rows, code = impl.PointOrbits(x)
		wantRows(t, "PointOrbits", rows, code, [][]int64{{0, 1, 2}}, impl.ErrNone)
		checkOwnMemory(t, "PointOrbits", rows)
		rows, code = impl.BlockOrbits(x)
		wantRows(t, "BlockOrbits", rows, code, [][]int64{{0}}, impl.ErrNone)
		checkOwnMemory(t, "BlockOrbits", rows)
		list, code = impl.KeptNumbers(x)
		wantList(t, "KeptNumbers", list, code, []int64{2, 3, 0, 1}, impl.ErrNone)
		spoil(list, -9)
		list, code = impl.GoesAround(x)
		wantList(t, "GoesAround", list, code, []int64{1, 2, 0}, impl.ErrNone)
		spoil(list, -9)
	}
}

// TestSymmetryAtOnce asks for automorphisms from several sides at once, as nothing is kept between calls.
func TestSymmetryAtOnce(t *testing.T) {
	x, y := named(t, "projective15"), named(t, "cyclic15")
	want := plainRenumberings(x, y)[0]
	var group sync.WaitGroup
	for range 8 {
		group.Go(func() {
			list, code := impl.FindRenumbering(x, y)
			wantList(t, "FindRenumbering at once", list, code, want, impl.ErrNone)
			n, code := impl.CountAutomorphisms(x)
			wantValue(t, "CountAutomorphisms at once", n, code, 20160, impl.ErrNone)
		})
	}
	group.Wait()
}
