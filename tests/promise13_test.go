package tests

import (
	"testing"

	"loop.example/g01355/impl"
)

// Promise 13: cyclic systems stay if their points are turned. These tests use the program's own results
// only; the tests of the functions compare them with what is worked out apart.

// cyclicSystems returns the cyclic systems of all difference families, and those with names.
func cyclicSystems(t *testing.T) []impl.System {
	t.Helper()
	var list []impl.System
	for _, v := range []int64{7, 13, 15} {
		families, code := impl.DifferenceFamilies(v)
		if len(families) == 0 || code != impl.ErrNone {
			t.Fatalf("DifferenceFamilies(%d) = %v, %d", v, families, code)
		}
		for _, family := range families {
			x, code := impl.CyclicSystem(v, family)
			wantFull(t, "CyclicSystem", x, code, v)
			list = append(list, x)
		}
	}
	for _, name := range []string{"fano", "cyclic13", "cyclic15"} {
		x, code := impl.NamedSystem(name)
		if code != impl.ErrNone {
			t.Errorf("NamedSystem(%q): code %d", name, code)
		}
		list = append(list, x)
	}
	return list
}

// staysTurned reports whether a system stays if its points are turned by 1.
func staysTurned(t *testing.T, x impl.System) bool {
	t.Helper()
	y, code := impl.TurnSystem(x, 1)
	if code != impl.ErrNone {
		t.Errorf("TurnSystem(%v, 1): code %d", x, code)
	}
	return sameSystem(x, y)
}

func TestPromise13Turned(t *testing.T) {
	for _, x := range cyclicSystems(t) {
		for k := range x.Points {
			y, code := impl.TurnSystem(x, k)
			wantSystem(t, "TurnSystem of a cyclic system", y, code, x, impl.ErrNone)
			apart, code := impl.AreApart(x, y)
			wantValue(t, "AreApart of a cyclic system turned", apart, code, false, impl.ErrNone)
		}
		k, code := impl.MateByTurning(x)
		wantValue(t, "MateByTurning of a cyclic system", k, code, 0, impl.ErrNotFound)
	}
}

// TestPromise13Automorphisms has the turns as automorphisms of cyclic systems.
func TestPromise13Automorphisms(t *testing.T) {
	for _, x := range cyclicSystems(t) {
		v := x.Points
		for k := range v {
			leads, code := impl.LeadsTo(x, x, turnList(v, k))
			wantValue(t, "LeadsTo of a turn", leads, code, true, impl.ErrNone)
		}
		n, code := impl.CountAutomorphisms(x)
		wantValue(t, "whether the turns are some of the automorphisms", n%v, code, 0, impl.ErrNone)
		around, code := impl.GoesAround(x)
		wantList(t, "GoesAround of a cyclic system", around, code, turnList(v, 1), impl.ErrNone)
	}
}

// TestPromise13Renumbered renumbers cyclic systems: by a turn or by a multiple they stay if their points
// are turned, and by any list they stay just if the turn is an automorphism.
func TestPromise13Renumbered(t *testing.T) {
	random := randomNumbers(131)
	stay, change := 0, 0
	for _, x := range cyclicSystems(t) {
		v := x.Points
		lists := [][]int64{turnList(v, 1), turnList(v, v-1)}
		for m := int64(2); m < v; m++ {
			var multiples []int64
			for a := range v {
				multiples = append(multiples, a*m%v)
			}
			if m%3 != 0 && m%5 != 0 || v != 15 {
				lists = append(lists, multiples)
			}
		}
		for _, p := range lists {
			y, code := impl.RenumberSystem(x, p)
			wantValue(t, "whether a multiple of a cyclic system stays", staysTurned(t, y), code, true, impl.ErrNone)
		}
		for range 40 {
			y, _ := impl.RenumberSystem(x, random.order(int(v)))
			leads, code := impl.LeadsTo(y, y, turnList(v, 1))
			wantValue(t, "whether a renumbered system stays", staysTurned(t, y), code, leads, impl.ErrNone)
			if leads {
				stay++
			} else {
				change++
			}
		}
	}
	if change < 100 {
		t.Errorf("samples: %d systems stay, %d do not", stay, change)
	}
}

// TestPromise13Others takes systems that are not cyclic: of all systems of 7 points two stay, of 3 points
// the one there is, and of 9 points none.
func TestPromise13Others(t *testing.T) {
	for v, want := range map[int64]int{3: 1, 7: 2, 9: 0} {
		count := 0
		for _, x := range toldSystems(t, v) {
			if staysTurned(t, x) {
				count++
			}
		}
		wantValue(t, "the systems that stay", count, impl.ErrNone, want, impl.ErrNone)
	}
}
