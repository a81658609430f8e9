package tests

import (
	"testing"

	"loop.example/g01355/impl"
)

// Promise 2: threefold, doubled and cyclic systems and products are full. The guarantee adds that
// cyclic systems stay if their points are turned. These tests use the program's own results only;
// the tests of the functions compare them with what is worked out apart.

func wantFull(t *testing.T, what string, x impl.System, code int64, v int64) {
	t.Helper()
	if code != impl.ErrNone || x.Points != v || !impl.IsSystem(x) {
		t.Errorf("%s = %v, %d; want a system of %d points", what, x, code, v)
		return
	}
	full, code := impl.IsFull(x)
	wantValue(t, "IsFull of "+what, full, code, true, impl.ErrNone)
	left, code := impl.PairsLeft(x)
	if len(left) != 0 || code != impl.ErrNone {
		t.Errorf("%s: the pairs left are %v, %d", what, left, code)
	}
}

func TestPromise2Threefold(t *testing.T) {
	for n, v := range map[int64]int64{2: 7, 3: 9, 4: 13, 5: 15} {
		square, code := impl.SquareOf(n)
		if code != impl.ErrNone {
			t.Fatalf("SquareOf(%d): code %d", n, code)
		}
		x, code := impl.ThreefoldSystem(square)
		wantFull(t, "ThreefoldSystem of SquareOf", x, code, v)
	}
	made := 0
	for _, rows := range sampleSquares() {
		kinds, code := impl.SquareKinds(rows)
		if code != impl.ErrNone {
			t.Fatalf("SquareKinds(%v): code %d", rows, code)
		}
		if kinds[0] == 0 || kinds[1]+kinds[2] == 0 {
			continue
		}
		made++
		n := int64(len(rows))
		x, code := impl.ThreefoldSystem(rows)
		wantFull(t, "ThreefoldSystem", x, code, 3*n+kinds[2])
	}
	if made != 10 {
		t.Errorf("%d squares have threefold systems, want 10", made)
	}
}

func TestPromise2Doubles(t *testing.T) {
	single := named(t, "single")
	seven, code := impl.DoubleSystem(single)
	wantFull(t, "DoubleSystem of single", seven, code, 7)
	fifteen, code := impl.DoubleSystem(seven)
	wantFull(t, "DoubleSystem of DoubleSystem", fifteen, code, 15)
	for _, x := range fullSystems(7) {
		y, code := impl.DoubleSystem(x)
		wantFull(t, "DoubleSystem", y, code, 15)
	}
}

func TestPromise2Products(t *testing.T) {
	single := named(t, "single")
	nine, code := impl.ProductSystem(single, single)
	wantFull(t, "ProductSystem", nine, code, 9)
}

func TestPromise2Cyclic(t *testing.T) {
	for _, v := range []int64{7, 13, 15} {
		list, code := impl.DifferenceFamilies(v)
		if len(list) == 0 || code != impl.ErrNone {
			t.Fatalf("DifferenceFamilies(%d) = %v, %d", v, list, code)
		}
		for _, family := range list {
			good, code := impl.IsDifferenceFamily(v, family)
			wantValue(t, "IsDifferenceFamily of DifferenceFamilies", good, code, true, impl.ErrNone)
			x, code := impl.CyclicSystem(v, family)
			wantFull(t, "CyclicSystem", x, code, v)
			for k := range v {
				var turn []int64
				for a := range v {
					turn = append(turn, (a+k)%v)
				}
				y, code := impl.RenumberSystem(x, turn)
				wantSystem(t, "CyclicSystem with its points turned", y, code, x, impl.ErrNone)
			}
		}
	}
}

// TestPromise2Numbers takes the made systems of at most 9 points: only full systems have numbers, and all of
// them have one, which leads back. Turned systems are full, too.
func TestPromise2Numbers(t *testing.T) {
	numbered := 0
	for _, x := range madeSystems(t) {
		for k := range x.Points {
			y, code := impl.TurnSystem(x, k)
			wantFull(t, "a made system, turned", y, code, x.Points)
		}
		if x.Points > 9 {
			continue
		}
		numbered++
		wantSystem(t, "SystemAt of NumberOfSystem", systemAt(t, x.Points, numberOf(t, x)), impl.ErrNone, x, impl.ErrNone)
	}
	if numbered < 6 {
		t.Errorf("samples: %d made systems have numbers", numbered)
	}
}
