package tests

import (
	"slices"
	"testing"

	"loop.example/g01355/impl"
)

func TestPaschList(t *testing.T) {
	for _, plain := range mixedSystems(t) {
		x, guard := guardSystem(plain)
		want := plainPasch(plain)
		list, code := impl.PaschList(x)
		wantRows(t, "PaschList", list, code, want, impl.ErrNone)
		checkOwnMemory(t, "PaschList", list)
		n, code := impl.CountPasch(x)
		wantValue(t, "CountPasch", n, code, int64(len(want)), impl.ErrNone)
		guard.check(t, "PaschList or CountPasch")
	}
}

func TestPaschByHand(t *testing.T) {
	single := system(t, "6:ace,adf,bcf,bde")
	for _, c := range []struct {
		what string
		x    impl.System
		want [][]int64
	}{
		{"fano", named(t, "fano"), [][]int64{{0, 1, 3, 6}, {0, 1, 4, 5}, {0, 2, 3, 5}, {0, 2, 4, 6}, {1, 2, 3, 4}, {1, 2, 5, 6}, {3, 4, 5, 6}}},
		{"one Pasch", single, [][]int64{{0, 1, 2, 3}}},
		{"one Pasch of 15 points", system(t, "15:jln,jmo,klo,kmn"), [][]int64{{0, 1, 2, 3}}},
		{"one Pasch and other blocks", system(t, "9:ace,adf,agh,bcf,bde,cgi"), [][]int64{{0, 1, 3, 4}}},
		{"three blocks of a Pasch", system(t, "6:ace,adf,bcf"), nil},
		{"four blocks in one point", system(t, "9:abc,ade,afg,ahi"), nil},
		{"three blocks in one point, and one that meets them", system(t, "7:abc,ade,afg,bdf"), nil},
		{"two blocks that do not meet", system(t, "8:abc,ade,bdf,cgh"), nil},
		{"four blocks around", system(t, "8:abc,agh,cde,efg"), nil},
		{"single", named(t, "single"), nil},
		{"affine", named(t, "affine"), nil},
		{"no blocks of 3 points", impl.System{Points: 3}, nil},
		{"no blocks of 15 points", impl.System{Points: 15}, nil},
	} {
		list, code := impl.PaschList(c.x)
		wantRows(t, "PaschList of "+c.what, list, code, c.want, impl.ErrNone)
	}
	// The numbers of the systems of 13 and 15 points are those of the literature.
	threefold := ruledSquare(5, 3, 3, 0)
	projective := named(t, "projective15")
	for _, c := range []struct {
		what string
		x    impl.System
		want int64
	}{
		{"cyclic13", named(t, "cyclic13"), 13},
		{"cyclic13 with a Pasch exchanged", exchanged(named(t, "cyclic13"), plainPasch(named(t, "cyclic13"))[0]), 8},
		{"projective15", projective, 105},
		{"cyclic15", named(t, "cyclic15"), 105},
		{"projective15 with a Pasch exchanged", exchanged(projective, plainPasch(projective)[50]), 73},
		{"a threefold system of 15 points", plainThreefold(threefold), 0},
	} {
		n, code := impl.CountPasch(c.x)
		wantValue(t, "CountPasch of "+c.what, n, code, c.want, impl.ErrNone)
	}
}

func TestMitres(t *testing.T) {
	for _, plain := range mixedSystems(t) {
		x, guard := guardSystem(plain)
		want, wantCentres := plainMitres(plain)
		list, code := impl.MitreList(x)
		wantRows(t, "MitreList", list, code, want, impl.ErrNone)
		checkOwnMemory(t, "MitreList", list)
		n, code := impl.CountMitres(x)
		wantValue(t, "CountMitres", n, code, int64(len(want)), impl.ErrNone)
		centres, code := impl.MitreCentres(x)
		wantList(t, "MitreCentres", centres, code, wantCentres, impl.ErrNone)
		guard.check(t, "MitreList, CountMitres or MitreCentres")
	}
}

func TestMitresByHand(t *testing.T) {
	for _, c := range []struct {
		what    string
		x       impl.System
		want    [][]int64
		centres []int64
	}{
		{"one mitre", system(t, "7:abc,ade,afg,bdf,ceg"), [][]int64{{0, 1, 2, 3, 4}}, []int64{1, 0, 0, 0, 0, 0, 0}},
		{"one mitre with the last point as its centre", system(t, "7:abg,ace,bdf,cdg,efg"), [][]int64{{0, 1, 2, 3, 4}}, []int64{0, 0, 0, 0, 0, 0, 1}},
		{"one mitre of 15 points", system(t, "15:ijo,ikm,jln,klo,mno"), [][]int64{{0, 1, 2, 3, 4}}, append(make([]int64, 14), 1)},
		{"a block of a mitre left out", system(t, "7:abc,ade,bdf,ceg"), nil, make([]int64, 7)},
		{"the last block of a mitre left out", system(t, "7:abc,ade,afg,bdf"), nil, make([]int64, 7)},
		{"five blocks that are no mitre", system(t, "9:abc,ade,afg,bdf,chi"), nil, make([]int64, 9)},
		{"two of a mitre that meet", system(t, "7:abc,ade,afg,bdf,beg"), nil, make([]int64, 7)},
		{"four blocks in one point, and two others", system(t, "9:abc,ade,afg,ahi,bdf,ceh"), nil, make([]int64, 9)},
		{"four blocks in one point, and a mitre", system(t, "9:abc,ade,afg,ahi,bdh,cei"), [][]int64{{0, 1, 3, 4, 5}}, []int64{1, 0, 0, 0, 0, 0, 0, 0, 0}},
		{"single", named(t, "single"), nil, make([]int64, 3)},
		{"fano", named(t, "fano"), nil, make([]int64, 7)},
		{"projective15", named(t, "projective15"), nil, make([]int64, 15)},
		{"no blocks of 3 points", impl.System{Points: 3}, nil, make([]int64, 3)},
		{"no blocks of 15 points", impl.System{Points: 15}, nil, make([]int64, 15)},
	} {
		list, code := impl.MitreList(c.x)
		wantRows(t, "MitreList of "+c.what, list, code, c.want, impl.ErrNone)
		centres, code := impl.MitreCentres(c.x)
		wantList(t, "MitreCentres of "+c.what, centres, code, c.centres, impl.ErrNone)
	}
}

func TestPaschAtPoints(t *testing.T) {
	for _, plain := range mixedSystems(t) {
		x, guard := guardSystem(plain)
		want := make([]int64, x.Points)
		for _, pasch := range plainPasch(plain) {
			var points []int64
			for _, i := range pasch {
				points = append(points, plain.Blocks[i][:]...)
			}
			slices.Sort(points)
			for _, a := range slices.Compact(points) {
				want[a]++
			}
		}
		list, code := impl.PaschAtPoints(x)
		wantList(t, "PaschAtPoints", list, code, want, impl.ErrNone)
		guard.check(t, "PaschAtPoints")
	}
	list, code := impl.PaschAtPoints(system(t, "9:ace,adf,agh,bcf,bde,cgi"))
	wantList(t, "PaschAtPoints of one Pasch", list, code, []int64{1, 1, 1, 1, 1, 1, 0, 0, 0}, impl.ErrNone)
	list, code = impl.PaschAtPoints(impl.System{Points: 3})
	wantList(t, "PaschAtPoints without blocks", list, code, []int64{0, 0, 0}, impl.ErrNone)
	list, code = impl.PaschAtPoints(named(t, "projective15"))
	wantList(t, "PaschAtPoints of projective15", list, code, slices.Repeat([]int64{42}, 15), impl.ErrNone)
}

// checkCycles checks what just one list of cycles has: all points but a, b and their third one, each
// once, cycles that begin with their least points and go on by a and b, by turns, and that are in
// the order of these points.
func checkCycles(t *testing.T, x impl.System, a, b int64, cycles [][]int64) {
	t.Helper()
	thirds := plainThirds(x)
	on := []int64{a, b, thirds[a][b]}
	for i, cycle := range cycles {
		if len(cycle) == 0 || len(cycle)%2 != 0 || cycle[0] != slices.Min(cycle) || i > 0 && cycles[i-1][0] >= cycle[0] {
			t.Errorf("CyclesOf(%v, %d, %d) = %v", x, a, b, cycles)
			return
		}
		for k, p := range cycle {
			by := [2]int64{a, b}[k%2]
			if q := cycle[(k+1)%len(cycle)]; thirds[by][p] != q {
				t.Errorf("CyclesOf(%v, %d, %d) = %v: from %d to %d", x, a, b, cycles, p, q)
			}
		}
		on = append(on, cycle...)
	}
	slices.Sort(on)
	if int64(len(on)) != x.Points || int64(len(slices.Compact(on))) != x.Points {
		t.Errorf("CyclesOf(%v, %d, %d) = %v: not each point once", x, a, b, cycles)
	}
}

// lengthsOf returns the lengths of lists, in descending order.
func lengthsOf(lists [][]int64) []int64 {
	var lengths []int64
	for _, list := range lists {
		lengths = append(lengths, int64(len(list)))
	}
	slices.SortFunc(lengths, func(m, n int64) int { return int(n - m) })
	return lengths
}

func TestCyclesOfAndTypeOf(t *testing.T) {
	for _, plain := range fulls(t) {
		x, guard := guardSystem(plain)
		for a := range x.Points {
			for b := range x.Points {
				if a == b {
					continue
				}
				cycles, code := impl.CyclesOf(x, a, b)
				if code != impl.ErrNone {
					t.Fatalf("CyclesOf(%v, %d, %d): code %d", x, a, b, code)
				}
				checkCycles(t, plain, a, b, cycles)
				lengths, code := impl.TypeOf(x, a, b)
				wantList(t, "TypeOf", lengths, code, lengthsOf(cycles), impl.ErrNone)
				checkOwnMemory(t, "CyclesOf", cycles)
			}
		}
		guard.check(t, "CyclesOf or TypeOf")
	}
}

func TestCyclesByHand(t *testing.T) {
	for _, c := range []struct {
		what    string
		x       impl.System
		a, b    int64
		cycles  [][]int64
		lengths []int64
	}{
		{"single", named(t, "single"), 0, 1, nil, nil},
		{"single, from behind", named(t, "single"), 2, 0, nil, nil},
		{"fano", named(t, "fano"), 0, 1, [][]int64{{2, 6, 5, 4}}, []int64{4}},
		{"fano, exchanged", named(t, "fano"), 1, 0, [][]int64{{2, 4, 5, 6}}, []int64{4}},
		{"fano, last points", named(t, "fano"), 6, 5, [][]int64{{0, 2, 3, 4}}, []int64{4}},
		{"affine", named(t, "affine"), 0, 1, [][]int64{{3, 6, 5, 7, 4, 8}}, []int64{6}},
		{"projective15", named(t, "projective15"), 0, 1, [][]int64{{3, 4, 6, 5}, {7, 8, 10, 9}, {11, 12, 14, 13}}, []int64{4, 4, 4}},
		{"cyclic13, two cycles", named(t, "cyclic13"), 0, 1, [][]int64{{2, 7, 9, 10, 11, 5}, {3, 12, 6, 8}}, []int64{6, 4}},
		{"cyclic13, two cycles, exchanged", named(t, "cyclic13"), 1, 0, [][]int64{{2, 5, 11, 10, 9, 7}, {3, 8, 6, 12}}, []int64{6, 4}},
		{"cyclic13, one cycle", named(t, "cyclic13"), 0, 2, [][]int64{{1, 4, 9, 10, 8, 6, 3, 12, 11, 5}}, []int64{10}},
	} {
		cycles, code := impl.CyclesOf(c.x, c.a, c.b)
		wantRows(t, "CyclesOf of "+c.what, cycles, code, c.cycles, impl.ErrNone)
		lengths, code := impl.TypeOf(c.x, c.a, c.b)
		wantList(t, "TypeOf of "+c.what, lengths, code, c.lengths, impl.ErrNone)
	}
}

// typesByPairs counts the types of all pairs, as TypeOf gives them.
func typesByPairs(t *testing.T, x impl.System) ([][]int64, []int64) {
	t.Helper()
	var all [][]int64
	for a := range x.Points {
		for b := a + 1; b < x.Points; b++ {
			lengths, code := impl.TypeOf(x, a, b)
			if code != impl.ErrNone {
				t.Fatalf("TypeOf(%v, %d, %d): code %d", x, a, b, code)
			}
			all = append(all, lengths)
		}
	}
	types := inOrder(slices.Clone(all))
	counts := make([]int64, len(types))
	for _, lengths := range all {
		counts[slices.IndexFunc(types, func(other []int64) bool { return slices.Equal(other, lengths) })]++
	}
	return types, counts
}

func TestTypesOf(t *testing.T) {
	most := 0
	for _, plain := range fulls(t) {
		x, guard := guardSystem(plain)
		want, wantCounts := typesByPairs(t, plain)
		most = max(most, len(want))
		types, counts, code := impl.TypesOf(x)
		wantRows(t, "TypesOf", types, code, want, impl.ErrNone)
		wantList(t, "the counts of TypesOf", counts, code, wantCounts, impl.ErrNone)
		checkOwnMemory(t, "TypesOf", append(types, counts))
		uniform, code := impl.IsUniform(x)
		wantValue(t, "IsUniform", uniform, code, len(want) == 1, impl.ErrNone)
		perfect, code := impl.IsPerfect(x)
		wantValue(t, "IsPerfect", perfect, code, len(want) == 1 && len(want[0]) == 1, impl.ErrNone)
		guard.check(t, "TypesOf, IsUniform or IsPerfect")
	}
	if most < 4 {
		t.Errorf("no sample has more than %d types", most)
	}
}

func TestTypesByHand(t *testing.T) {
	for _, c := range []struct {
		what             string
		x                impl.System
		types            [][]int64
		counts           []int64
		uniform, perfect bool
	}{
		{"single", named(t, "single"), [][]int64{{}}, []int64{3}, true, false},
		{"fano", named(t, "fano"), [][]int64{{4}}, []int64{21}, true, true},
		{"affine", named(t, "affine"), [][]int64{{6}}, []int64{36}, true, true},
		{"cyclic13", named(t, "cyclic13"), [][]int64{{6, 4}, {10}}, []int64{39, 39}, false, false},
		{"cyclic15", named(t, "cyclic15"), [][]int64{{4, 4, 4}}, []int64{105}, true, false},
		{"projective15", named(t, "projective15"), [][]int64{{4, 4, 4}}, []int64{105}, true, false},
		{"a threefold system", plainThreefold(ruledSquare(5, 3, 3, 0)), [][]int64{{6, 6}, {12}}, []int64{15, 90}, false, false},
	} {
		types, counts, code := impl.TypesOf(c.x)
		wantRows(t, "TypesOf of "+c.what, types, code, c.types, impl.ErrNone)
		wantList(t, "the counts of TypesOf of "+c.what, counts, code, c.counts, impl.ErrNone)
		uniform, code := impl.IsUniform(c.x)
		wantValue(t, "IsUniform of "+c.what, uniform, code, c.uniform, impl.ErrNone)
		perfect, code := impl.IsPerfect(c.x)
		wantValue(t, "IsPerfect of "+c.what, perfect, code, c.perfect, impl.ErrNone)
	}
}

func wantNoTypes(t *testing.T, what string, x impl.System, wantCode int64) {
	t.Helper()
	types, counts, code := impl.TypesOf(x)
	wantRows(t, "TypesOf of "+what, types, code, nil, wantCode)
	wantList(t, "the counts of TypesOf of "+what, counts, code, nil, wantCode)
	uniform, code := impl.IsUniform(x)
	wantValue(t, "IsUniform of "+what, uniform, code, false, wantCode)
	perfect, code := impl.IsPerfect(x)
	wantValue(t, "IsPerfect of "+what, perfect, code, false, wantCode)
}

func wantNoCycles(t *testing.T, what string, x impl.System, a, b int64, wantCode int64) {
	t.Helper()
	cycles, code := impl.CyclesOf(x, a, b)
	wantRows(t, "CyclesOf of "+what, cycles, code, nil, wantCode)
	lengths, code := impl.TypeOf(x, a, b)
	wantList(t, "TypeOf of "+what, lengths, code, nil, wantCode)
}

// TestShapesOfInvalidSystems gives good and bad points too: ErrInvalid comes before ErrRange.
func TestShapesOfInvalidSystems(t *testing.T) {
	for name, plain := range invalidSystems() {
		x, guard := guardSystem(plain)
		rows, code := impl.PaschList(x)
		wantRows(t, "PaschList of "+name, rows, code, nil, impl.ErrInvalid)
		n, code := impl.CountPasch(x)
		wantValue(t, "CountPasch of "+name, n, code, 0, impl.ErrInvalid)
		rows, code = impl.MitreList(x)
		wantRows(t, "MitreList of "+name, rows, code, nil, impl.ErrInvalid)
		n, code = impl.CountMitres(x)
		wantValue(t, "CountMitres of "+name, n, code, 0, impl.ErrInvalid)
		list, code := impl.MitreCentres(x)
		wantList(t, "MitreCentres of "+name, list, code, nil, impl.ErrInvalid)
		list, code = impl.PaschAtPoints(x)
		wantList(t, "PaschAtPoints of "+name, list, code, nil, impl.ErrInvalid)
		wantNoTypes(t, name, x, impl.ErrInvalid)
		for _, a := range []int64{0, 1, -1, 99, mostInt, leastInt} {
			for _, b := range []int64{0, 1, -1, 99, mostInt, leastInt} {
				wantNoCycles(t, name, x, a, b, impl.ErrInvalid)
			}
		}
		guard.check(t, "shapes of "+name)
	}
}

// TestCyclesOutside gives points that are none, and equal ones: ErrRange comes before ErrState.
func TestCyclesOutside(t *testing.T) {
	for _, plain := range mixedSystems(t) {
		x, guard := guardSystem(plain)
		for _, bad := range outside(x.Points) {
			for a := range x.Points {
				wantNoCycles(t, "a point and none", x, a, bad, impl.ErrRange)
				wantNoCycles(t, "none and a point", x, bad, a, impl.ErrRange)
			}
			wantNoCycles(t, "two that are no points", x, bad, -1, impl.ErrRange)
			wantNoCycles(t, "one that is no point, twice", x, bad, bad, impl.ErrRange)
		}
		for a := range x.Points {
			wantNoCycles(t, "a point twice", x, a, a, impl.ErrRange)
		}
		guard.check(t, "CyclesOf or TypeOf outside")
	}
}

func TestCyclesOfPartialSystems(t *testing.T) {
	for _, plain := range notFull(t) {
		x, guard := guardSystem(plain)
		wantNoTypes(t, "a partial system", x, impl.ErrState)
		for a := range x.Points {
			for b := range x.Points {
				if a != b {
					wantNoCycles(t, "a partial system", x, a, b, impl.ErrState)
				}
			}
		}
		guard.check(t, "cycles of a partial system")
	}
}

// TestShapesAgain calls functions twice, with the first results overwritten: nothing is kept.
func TestShapesAgain(t *testing.T) {
	x := named(t, "cyclic13")
	for range 2 {
		list, code := impl.PaschList(x)
		wantRows(t, "PaschList", list, code, plainPasch(x), impl.ErrNone)
		checkOwnMemory(t, "PaschList", list)
		numbers, code := impl.MitreCentres(x)
		wantList(t, "MitreCentres", numbers, code, make([]int64, 13), impl.ErrNone)
		spoil(numbers, -9)
		numbers, code = impl.PaschAtPoints(x)
		wantList(t, "PaschAtPoints", numbers, code, slices.Repeat([]int64{6}, 13), impl.ErrNone)
		spoil(numbers, -9)
		types, counts, code := impl.TypesOf(x)
		wantRows(t, "TypesOf", types, code, [][]int64{{6, 4}, {10}}, impl.ErrNone)
		wantList(t, "the counts of TypesOf", counts, code, []int64{39, 39}, impl.ErrNone)
		checkOwnMemory(t, "TypesOf", append(types, counts))
	}
}
