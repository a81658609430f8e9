package tests

import (
	"slices"
	"testing"

	"loop.example/g01355/impl"
)

// Promise 15: loops that are groups have as many Pasch as can be. Three points that are in no block make,
// in an order, a Pasch if they are an associative triple, and each Pasch has 24 such triples: so a system
// of v points has at most v (v - 1) (v - 3) / 24 Pasch, and the loop is a group just if it has so many.
// These tests use the program's own results only; the tests of the functions compare them with what is
// worked out apart.

// openTriples returns how many lists of three different points of v are no block.
func openTriples(v int64) int64 {
	return v * (v - 1) * (v - 3)
}

// isGroup reports whether the loop of a full system is a group: all triples are associative.
func isGroup(t *testing.T, x impl.System) bool {
	t.Helper()
	n, code := impl.CountAssociative(x)
	all := (x.Points + 1) * (x.Points + 1) * (x.Points + 1)
	if code != impl.ErrNone || n > all {
		t.Errorf("CountAssociative(%v) = %d, %d", x, n, code)
	}
	return n == all
}

// paschCount returns the number of the Pasch, which must be there.
func paschCount(t *testing.T, x impl.System) int64 {
	t.Helper()
	n, code := impl.CountPasch(x)
	if code != impl.ErrNone {
		t.Errorf("CountPasch(%v): code %d", x, code)
	}
	return n
}

func TestPromise15Groups(t *testing.T) {
	groups, others := map[int]bool{}, map[int]bool{}
	for _, x := range slices.Concat(productSystems(t), madeSystems(t), relatives(t), systemsOf(t, 7), systemsOf(t, 9)[:50]) {
		n, most := paschCount(t, x), openTriples(x.Points)/24
		group := isGroup(t, x)
		if n > most || group != (24*n == openTriples(x.Points)) {
			t.Errorf("%v has %d Pasch of at most %d; a group: %v", x, n, most, group)
		}
		if group {
			groups[int(x.Points)] = true
		} else {
			others[int(x.Points)] = true
		}
	}
	wantKeys(t, "points, and a loop that is a group", groups, 3, 7, 15)
	wantKeys(t, "points, and a loop that is none", others, 9, 13, 15)
	for _, v := range []int{9, 13} {
		if groups[v] {
			t.Errorf("a loop of %d points is a group", v)
		}
	}
	if others[3] || others[7] {
		t.Errorf("loops that are no groups: %v", others)
	}
}

// TestPromise15AllKinds takes all full systems, as there are no others but isomorphic ones: one kind of 3,
// 7 and 15 points each has a loop that is a group.
func TestPromise15AllKinds(t *testing.T) {
	for v, want := range map[int64]int{3: 1, 7: 1, 9: 0, 13: 0, 15: 1} {
		groups := 0
		for _, x := range allKinds(t, v) {
			n := paschCount(t, x)
			if isGroup(t, x) {
				groups++
				wantValue(t, "the Pasch of a group", 24*n, impl.ErrNone, openTriples(v), impl.ErrNone)
			} else if 24*n >= openTriples(v) {
				t.Errorf("%v has %d Pasch, and no group", x, n)
			}
		}
		if groups != want {
			t.Errorf("of %d points there are %d groups", v, groups)
		}
	}
}

// TestPromise15MostPasch compares systems with as many points: none has more Pasch than those whose loops
// are groups, and those that have as many are groups, too.
func TestPromise15MostPasch(t *testing.T) {
	most := map[int64]int64{}
	list := slices.Concat(productSystems(t), madeSystems(t), relatives(t))
	for _, x := range list {
		most[x.Points] = max(most[x.Points], paschCount(t, x))
	}
	for _, x := range list {
		v := x.Points
		if v == 9 || v == 13 {
			continue
		}
		if n := paschCount(t, x); isGroup(t, x) != (n == most[v]) {
			t.Errorf("%v has %d Pasch, the most are %d; a group: %v", x, n, most[v], isGroup(t, x))
		}
	}
	wantValue(t, "the most Pasch of 7 points", most[7], impl.ErrNone, 7, impl.ErrNone)
	wantValue(t, "the most Pasch of 15 points", most[15], impl.ErrNone, 105, impl.ErrNone)
}

// TestPromise15Triples counts associative triples by Pasch: in the loop all triples are associative but
// those of points that are in no block and no Pasch; of points, those with equal ones at both ends are,
// and those in Pasch.
func TestPromise15Triples(t *testing.T) {
	for _, x := range slices.Concat(productSystems(t), madeSystems(t), relatives(t), systemsOf(t, 7), systemsOf(t, 9)[:50]) {
		v, pasch := x.Points, paschCount(t, x)
		n, code := impl.CountAssociative(x)
		wantValue(t, "CountAssociative", n, code, (v+1)*(v+1)*(v+1)-openTriples(v)+24*pasch, impl.ErrNone)
		n, code = impl.CountPointTriples(x)
		wantValue(t, "CountPointTriples", n, code, v*v+24*pasch, impl.ErrNone)
	}
}

// TestPromise15Doubles takes doubles of systems of 3 and 7 points, whose loops are groups, and so are
// theirs; and what trades of Pasch make of such a double, which has fewer Pasch and is no group.
func TestPromise15Doubles(t *testing.T) {
	for _, x := range slices.Concat(systemsOf(t, 3), systemsOf(t, 7)) {
		y, code := impl.DoubleSystem(x)
		if code != impl.ErrNone || isGroup(t, y) != isGroup(t, x) || !isGroup(t, y) {
			t.Errorf("the double %v, %d, of %v: a group %v, and %v", y, code, x, isGroup(t, y), isGroup(t, x))
		}
		wantValue(t, "the Pasch of a double", 24*paschCount(t, y), code, openTriples(y.Points), impl.ErrNone)
	}
	projective := named(t, "projective15")
	trades, code := impl.PaschTrades(projective)
	if code != impl.ErrNone || len(trades) != 105 {
		t.Fatalf("PaschTrades: %d trades, code %d", len(trades), code)
	}
	for _, change := range trades {
		y, code := impl.CarryOut(projective, change)
		wantValue(t, "whether a traded system is a group", isGroup(t, y), code, false, impl.ErrNone)
		wantValue(t, "the Pasch of a traded system", paschCount(t, y), code, 73, impl.ErrNone)
	}
}
