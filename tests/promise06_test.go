package tests

import (
	"slices"
	"testing"

	"loop.example/g01355/impl"
)

// Promise 6: found renumberings lead to the systems, and the number of automorphisms is that of an
// orbit times a stabiliser number. The guarantee adds that orbits have all points and blocks, and that
// cyclic systems are around. These tests use the program's own results only; the tests of the
// functions compare them with what is worked out apart.

// checkFound finds a renumbering that leads x to y, which is x renumbered by p.
func checkFound(t *testing.T, x, y impl.System, p []int64) {
	t.Helper()
	found, code := impl.FindRenumbering(x, y)
	if code != impl.ErrNone || slices.Compare(found, p) > 0 {
		t.Errorf("FindRenumbering(%v, %v) = %v, %d; %v leads there", x, y, found, code, p)
	}
	leads, code := impl.LeadsTo(x, y, found)
	wantValue(t, "LeadsTo of FindRenumbering", leads, code, true, impl.ErrNone)
	image, code := impl.RenumberSystem(x, found)
	wantSystem(t, "the system renumbered by FindRenumbering", image, code, y, impl.ErrNone)
	same, code := impl.AreIsomorphic(x, y)
	wantValue(t, "AreIsomorphic of the system renumbered", same, code, true, impl.ErrNone)
}

func TestPromise6Found(t *testing.T) {
	random := randomNumbers(65)
	list := slices.Concat(madeSystems(t), kindsOfFulls(t))
	for _, x := range list {
		p := random.order(int(x.Points))
		y, code := impl.RenumberSystem(x, p)
		if code != impl.ErrNone {
			t.Fatalf("RenumberSystem: code %d", code)
		}
		leads, code := impl.LeadsTo(x, y, p)
		wantValue(t, "LeadsTo of RenumberSystem", leads, code, true, impl.ErrNone)
		checkFound(t, x, y, p)
		checkFound(t, y, x, inverseOf(p))
		checkFound(t, x, x, identity(x.Points))
		// Any other system is isomorphic to both, or to none.
		z := list[random.below(len(list))]
		found, code := impl.FindRenumbering(z, x)
		same, sameCode := impl.AreIsomorphic(z, x)
		other, otherCode := impl.AreIsomorphic(y, z)
		wantValue(t, "AreIsomorphic of any system", same, sameCode, code == impl.ErrNone, impl.ErrNone)
		wantValue(t, "AreIsomorphic, exchanged and renumbered", other, otherCode, same, impl.ErrNone)
		if same {
			checkFound(t, z, x, found)
		}
	}
}

// checkOrbits checks that orbits have each number once, and are in order.
func checkOrbits(t *testing.T, what string, n int, orbits [][]int64) {
	t.Helper()
	all := slices.Concat(orbits...)
	slices.Sort(all)
	if !slices.Equal(all, identity(int64(n))) {
		t.Errorf("%s: the orbits %v have not each of %d numbers once", what, orbits, n)
	}
	for k, orbit := range orbits {
		if len(orbit) == 0 || !slices.IsSorted(orbit) || k > 0 && orbits[k-1][0] >= orbit[0] {
			t.Errorf("%s: the orbits %v are not in order", what, orbits)
		}
	}
}

func TestPromise6Orbits(t *testing.T) {
	for _, x := range slices.Concat(madeSystems(t), kindsOfFulls(t)) {
		n, code := impl.CountAutomorphisms(x)
		if code != impl.ErrNone || n < 1 {
			t.Fatalf("CountAutomorphisms(%v) = %d, %d", x, n, code)
		}
		points, code := impl.PointOrbits(x)
		wantValue(t, "the code of PointOrbits", code, code, impl.ErrNone, impl.ErrNone)
		checkOrbits(t, "PointOrbits", int(x.Points), points)
		blocks, code := impl.BlockOrbits(x)
		wantValue(t, "the code of BlockOrbits", code, code, impl.ErrNone, impl.ErrNone)
		checkOrbits(t, "BlockOrbits", len(x.Blocks), blocks)
		for _, orbit := range points {
			for i, p := range orbit {
				// Large groups take their time; the first and last points are enough for them.
				if n > impl.MaxAutomorphisms && 0 < i && i < len(orbit)-1 {
					continue
				}
				stabiliser, code := impl.StabiliserNumber(x, p)
				wantValue(t, "an orbit times a stabiliser number", int64(len(orbit))*stabiliser, code, n, impl.ErrNone)
			}
		}
		for _, orbit := range blocks {
			if n%int64(len(orbit)) != 0 {
				t.Errorf("BlockOrbits(%v) = %v, with %d automorphisms", x, blocks, n)
			}
		}
		checkKept(t, x, n, int64(len(points)))
	}
}

// checkKept checks that numbers by kept points add up to all automorphisms, and the points that these
// keep to as many times that number as there are orbits (the lemma of Cauchy and Frobenius).
func checkKept(t *testing.T, x impl.System, n, orbits int64) {
	t.Helper()
	kept, code := impl.KeptNumbers(x)
	wantValue(t, "the sum of KeptNumbers", sumOf(kept), code, n, impl.ErrNone)
	points := int64(0)
	for k, count := range kept {
		points += int64(k) * count
	}
	wantValue(t, "the points that are kept", points, code, n*orbits, impl.ErrNone)
	if int64(len(kept)) != x.Points+1 || kept[x.Points] != 1 {
		t.Errorf("KeptNumbers(%v) = %v", x, kept)
	}
}

func TestPromise6Automorphisms(t *testing.T) {
	for _, x := range slices.Concat(madeSystems(t), kindsOfFulls(t)) {
		n, _ := impl.CountAutomorphisms(x)
		list, code := impl.AutomorphismsOf(x)
		if n > impl.MaxAutomorphisms {
			wantRows(t, "AutomorphismsOf of too many", list, code, nil, impl.ErrLimit)
			continue
		}
		wantValue(t, "the number of AutomorphismsOf", int64(len(list)), code, n, impl.ErrNone)
		for k, p := range list {
			leads, code := impl.LeadsTo(x, x, p)
			wantValue(t, "LeadsTo of AutomorphismsOf", leads, code, true, impl.ErrNone)
			if k > 0 && slices.Compare(list[k-1], p) >= 0 {
				t.Errorf("AutomorphismsOf(%v) has %v before %v", x, list[k-1], p)
			}
			if _, found := slices.BinarySearchFunc(list, inverseOf(p), slices.Compare); !found {
				t.Errorf("AutomorphismsOf(%v) has %v, but not its inverse", x, p)
			}
		}
		around, code := impl.GoesAround(x)
		want, wantCode := plainAround(list)
		wantList(t, "GoesAround", around, code, want, wantCode)
	}
}

// TestPromise6Cyclic tests that cyclic systems are around.
func TestPromise6Cyclic(t *testing.T) {
	random := randomNumbers(66)
	for _, v := range []int64{7, 13, 15} {
		families, code := impl.DifferenceFamilies(v)
		if len(families) == 0 || code != impl.ErrNone {
			t.Fatalf("DifferenceFamilies(%d) = %v, %d", v, families, code)
		}
		for _, family := range families {
			x, code := impl.CyclicSystem(v, family)
			turn := append(identity(v)[1:], 0)
			leads, leadsCode := impl.LeadsTo(x, x, turn)
			wantValue(t, "LeadsTo of a turn", leads, max(code, leadsCode), true, impl.ErrNone)
			// No renumbering without a kept point is less than the turn.
			around, code := impl.GoesAround(x)
			wantList(t, "GoesAround of a cyclic system", around, code, turn, impl.ErrNone)
			y, _ := impl.RenumberSystem(x, random.order(int(v)))
			around, code = impl.GoesAround(y)
			leads, leadsCode = impl.LeadsTo(y, y, around)
			wantValue(t, "LeadsTo of GoesAround", leads, max(code, leadsCode), true, impl.ErrNone)
			wantValue(t, "whether GoesAround goes around", plainIsAround(around), code, true, impl.ErrNone)
		}
	}
}

// orbitLengths returns the lengths of the orbits of points and of blocks, descending.
func orbitLengths(t *testing.T, x impl.System) [][]int64 {
	t.Helper()
	points, code := impl.PointOrbits(x)
	blocks, otherCode := impl.BlockOrbits(x)
	wantValue(t, "the codes of orbits", code, otherCode, impl.ErrNone, impl.ErrNone)
	return [][]int64{lengthsOf(points), lengthsOf(blocks)}
}

// TestSymmetryRenumbered tests the main guarantee: what is counted stays if points are renumbered.
func TestSymmetryRenumbered(t *testing.T) {
	random := randomNumbers(67)
	for _, x := range kindsOfFulls(t) {
		p := random.order(int(x.Points))
		y, code := impl.RenumberSystem(x, p)
		if code != impl.ErrNone {
			t.Fatalf("RenumberSystem: code %d", code)
		}
		n, _ := impl.CountAutomorphisms(x)
		m, code := impl.CountAutomorphisms(y)
		wantValue(t, "CountAutomorphisms, renumbered", m, code, n, impl.ErrNone)
		kept, _ := impl.KeptNumbers(x)
		newKept, code := impl.KeptNumbers(y)
		wantList(t, "KeptNumbers, renumbered", newKept, code, kept, impl.ErrNone)
		wantRows(t, "lengths of orbits, renumbered", orbitLengths(t, y), code, orbitLengths(t, x), impl.ErrNone)
		for a := int64(0); a < x.Points; a += 3 {
			n, _ := impl.StabiliserNumber(x, a)
			m, code := impl.StabiliserNumber(y, p[a])
			wantValue(t, "StabiliserNumber, renumbered", m, code, n, impl.ErrNone)
		}
		_, code = impl.GoesAround(x)
		around, newCode := impl.GoesAround(y)
		wantValue(t, "the code of GoesAround, renumbered", newCode, newCode, code, code)
		if newCode == impl.ErrNone && !plainIsAround(around) {
			t.Errorf("GoesAround(%v) = %v", y, around)
		}
	}
}
