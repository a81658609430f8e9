package tests

import (
	"slices"
	"testing"

	"loop.example/g01355/impl"
)

// Promise 3: cycles have even lengths, and cycles of the length 4 are three times as many as Pasch.
// The guarantee adds that counts are those of lists. These tests use the program's own results only;
// the tests of the functions compare them with what is worked out apart.

// madeSystems returns full systems that the program makes.
func madeSystems(t *testing.T) []impl.System {
	t.Helper()
	var list []impl.System
	add := func(x impl.System, code int64) {
		if code != impl.ErrNone {
			t.Errorf("a system is not made: code %d", code)
			return
		}
		list = append(list, x)
	}
	for _, name := range []string{"single", "fano", "affine", "cyclic13", "cyclic15", "projective15"} {
		add(impl.NamedSystem(name))
	}
	for n := int64(2); n <= 5; n++ {
		square, _ := impl.SquareOf(n)
		add(impl.ThreefoldSystem(square))
	}
	for _, x := range slices.Clone(list) {
		if x.Points <= 7 {
			add(impl.DoubleSystem(x))
		}
	}
	add(impl.ProductSystem(list[0], list[0]))
	return slices.Concat(list, fulls(t))
}

func TestPromise3Cycles(t *testing.T) {
	for _, x := range madeSystems(t) {
		short := 0
		for a := range x.Points {
			for b := range a {
				cycles, code := impl.CyclesOf(x, a, b)
				if code != impl.ErrNone {
					t.Fatalf("CyclesOf(%v, %d, %d): code %d", x, a, b, code)
				}
				points := 0
				for _, cycle := range cycles {
					points += len(cycle)
					if len(cycle)%2 != 0 {
						t.Errorf("CyclesOf(%v, %d, %d) = %v: an odd length", x, a, b, cycles)
					}
					if len(cycle) == 4 {
						short++
					}
				}
				if int64(points) != x.Points-3 {
					t.Errorf("CyclesOf(%v, %d, %d) = %v: %d points", x, a, b, cycles, points)
				}
			}
		}
		pasch, code := impl.CountPasch(x)
		wantValue(t, "three times CountPasch", 3*pasch, code, int64(short), impl.ErrNone)
	}
}

func TestPromise3Types(t *testing.T) {
	for _, x := range madeSystems(t) {
		types, counts, code := impl.TypesOf(x)
		if code != impl.ErrNone || len(types) != len(counts) {
			t.Fatalf("TypesOf(%v) = %v, %v, %d", x, types, counts, code)
		}
		var pairs, short int64
		for i, lengths := range types {
			pairs += counts[i]
			for _, n := range lengths {
				if n%2 != 0 {
					t.Errorf("TypesOf(%v) = %v: an odd length", x, types)
				}
				if n == 4 {
					short += counts[i]
				}
			}
		}
		if want := x.Points * (x.Points - 1) / 2; pairs != want {
			t.Errorf("TypesOf(%v) has %d pairs, want %d", x, pairs, want)
		}
		pasch, code := impl.CountPasch(x)
		wantValue(t, "three times CountPasch", 3*pasch, code, short, impl.ErrNone)
		uniform, _ := impl.IsUniform(x)
		if perfect, _ := impl.IsPerfect(x); perfect && !uniform {
			t.Errorf("%v is perfect, but not uniform", x)
		}
	}
}

func sumOf(list []int64) int64 {
	var sum int64
	for _, n := range list {
		sum += n
	}
	return sum
}

func TestPromise3Counts(t *testing.T) {
	for _, x := range slices.Concat(partials(), madeSystems(t)) {
		list, code := impl.PaschList(x)
		n, countCode := impl.CountPasch(x)
		wantValue(t, "CountPasch", n, countCode, int64(len(list)), code)
		at, code := impl.PaschAtPoints(x)
		wantValue(t, "the sum of PaschAtPoints", sumOf(at), code, 6*n, impl.ErrNone)
		list, code = impl.MitreList(x)
		n, countCode = impl.CountMitres(x)
		wantValue(t, "CountMitres", n, countCode, int64(len(list)), code)
		centres, code := impl.MitreCentres(x)
		wantValue(t, "the sum of MitreCentres", sumOf(centres), code, n, impl.ErrNone)
	}
}

// TestShapesRenumbered tests the main guarantee: what is counted stays if points are renumbered.
func TestShapesRenumbered(t *testing.T) {
	random := randomNumbers(32)
	for _, x := range slices.Concat(partials(), madeSystems(t)) {
		p := random.order(int(x.Points))
		y, code := impl.RenumberSystem(x, p)
		wantSystem(t, "RenumberSystem", y, code, renumbered(x, p), impl.ErrNone)
		n, _ := impl.CountPasch(x)
		m, code := impl.CountPasch(y)
		wantValue(t, "CountPasch, renumbered", m, code, n, impl.ErrNone)
		n, _ = impl.CountMitres(x)
		m, code = impl.CountMitres(y)
		wantValue(t, "CountMitres, renumbered", m, code, n, impl.ErrNone)
		centres, _ := impl.MitreCentres(x)
		newCentres, _ := impl.MitreCentres(y)
		at, _ := impl.PaschAtPoints(x)
		newAt, _ := impl.PaschAtPoints(y)
		for a, b := range p {
			if newCentres[b] != centres[a] || newAt[b] != at[a] {
				t.Errorf("%v renumbered by %v: mitres %v and %v, Pasch %v and %v", x, p, centres, newCentres, at, newAt)
				break
			}
		}
		types, counts, code := impl.TypesOf(x)
		newTypes, newCounts, newCode := impl.TypesOf(y)
		wantRows(t, "TypesOf, renumbered", newTypes, newCode, types, code)
		wantList(t, "the counts of TypesOf, renumbered", newCounts, newCode, counts, code)
	}
}
