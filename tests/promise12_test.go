package tests

import (
	"slices"
	"testing"

	"loop.example/g01355/impl"
)

// Promise 12: doubles have the system in them, and differences of systems lead from one to the other
// one. These tests use the program's own results only; the tests of the functions compare them with
// what is worked out apart.

func TestPromise12Doubles(t *testing.T) {
	for _, x := range slices.Concat(fullSystems(3), fullSystems(7)) {
		y, code := impl.DoubleSystem(x)
		if code != impl.ErrNone {
			t.Fatalf("DoubleSystem(%v): code %d", x, code)
		}
		var points []int64
		for a := range x.Points {
			points = append(points, a)
		}
		part, code := impl.BlocksOn(y, points)
		wantSystem(t, "BlocksOn the points of a doubled system", part, code, x, impl.ErrNone)
		for _, b := range x.Blocks {
			if !slices.Contains(y.Blocks, b) {
				t.Errorf("the double %v of %v has not the block %v", y, x, b)
			}
		}
	}
}

// checkDifference carries out the difference of two systems, and back.
func checkDifference(t *testing.T, x, y impl.System) {
	t.Helper()
	difference, code := impl.DifferenceTrade(x, y)
	if code != impl.ErrNone || !impl.IsTrade(difference) {
		t.Errorf("DifferenceTrade(%v, %v) = %v, %d", x, y, difference, code)
		return
	}
	z, code := impl.CarryOut(x, difference)
	wantSystem(t, "the first system with the difference carried out", z, code, y, impl.ErrNone)
	inverse, code := impl.InverseTrade(difference)
	if code != impl.ErrNone {
		t.Errorf("InverseTrade(%v): code %d", difference, code)
	}
	z, code = impl.CarryOut(y, inverse)
	wantSystem(t, "the second system with the inverse carried out", z, code, x, impl.ErrNone)
	back, code := impl.DifferenceTrade(y, x)
	wantTrade(t, "DifferenceTrade, exchanged", back, code, inverse, impl.ErrNone)
	common, code := impl.CommonBlocks(x, y)
	wantValue(t, "the volume of the difference", len(difference.Out), code, len(x.Blocks)-len(common), impl.ErrNone)
}

func TestPromise12FullSystems(t *testing.T) {
	random := randomNumbers(121)
	list := madeSystems(t)
	for _, x := range list {
		y, code := impl.RenumberSystem(x, random.order(int(x.Points)))
		if code != impl.ErrNone {
			t.Fatalf("RenumberSystem: code %d", code)
		}
		checkDifference(t, x, x)
		checkDifference(t, x, y)
		for range 8 {
			if z := list[random.below(len(list))]; z.Points == x.Points {
				checkDifference(t, x, z)
				checkDifference(t, y, z)
			}
		}
	}
}

func TestPromise12NamedSystems(t *testing.T) {
	random := randomNumbers(122)
	for _, name := range []string{"single", "fano", "affine", "cyclic13", "cyclic15", "projective15"} {
		x, code := impl.NamedSystem(name)
		if code != impl.ErrNone {
			t.Fatalf("NamedSystem(%q): code %d", name, code)
		}
		for range 10 {
			y, _ := impl.RenumberSystem(x, random.order(int(x.Points)))
			z, _ := impl.RenumberSystem(x, random.order(int(x.Points)))
			checkDifference(t, y, z)
		}
	}
	cyclic, _ := impl.NamedSystem("cyclic15")
	projective, _ := impl.NamedSystem("projective15")
	checkDifference(t, cyclic, projective)
}

func TestPromise12PartialSystems(t *testing.T) {
	for _, x := range partials() {
		checkDifference(t, x, x)
		trades, code := impl.PaschTrades(x)
		if code != impl.ErrNone {
			t.Errorf("PaschTrades(%v): code %d", x, code)
		}
		for _, change := range trades {
			y, _ := impl.CarryOut(x, change)
			checkDifference(t, x, y)
			difference, code := impl.DifferenceTrade(x, y)
			wantTrade(t, "DifferenceTrade of a Pasch", difference, code, change, impl.ErrNone)
		}
	}
}
