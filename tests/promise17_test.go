package tests

import (
	"slices"
	"testing"

	"loop.example/g01355/impl"
)

// Promise 17: independent sets are the others of sets that meet all blocks. Whether a set meets all
// blocks is told by the blocks at its points. These tests use the program's own results only; the tests
// of the functions compare them with what is worked out apart.

// meetsAll reports whether the blocks at the points of a set are all blocks.
func meetsAll(t *testing.T, x impl.System, set []int64) bool {
	t.Helper()
	met := map[int64]bool{}
	for _, a := range set {
		numbers, code := impl.BlocksAt(x, a)
		if code != impl.ErrNone {
			t.Errorf("BlocksAt(%v, %d): code %d", x, a, code)
		}
		for _, i := range numbers {
			met[i] = true
		}
	}
	return len(met) == len(x.Blocks)
}

// isIndependent reports what IsIndependent says, which must not be an error.
func isIndependent(t *testing.T, x impl.System, set []int64) bool {
	t.Helper()
	yes, code := impl.IsIndependent(x, set)
	if code != impl.ErrNone {
		t.Errorf("IsIndependent(%v, %v): code %d", x, set, code)
	}
	return yes
}

func TestPromise17Sets(t *testing.T) {
	random := randomNumbers(173)
	independent, dependent := 0, 0
	for _, x := range slices.Concat(partSystems(t), madeSystems(t)[:25]) {
		for _, set := range setsToTry(x, &random) {
			yes := isIndependent(t, x, set)
			if yes != meetsAll(t, x, othersThan(x.Points, set)) {
				t.Errorf("IsIndependent(%v, %v) = %v; the others meet all blocks: %v", x, set, yes, !yes)
			}
			if yes {
				independent++
			} else {
				dependent++
			}
		}
	}
	if independent < 5000 || dependent < 5000 {
		t.Errorf("sets: independent %d, others %d", independent, dependent)
	}
}

// checkGreatest checks that the greatest independent set and the least set that meets all blocks have as
// many points as there are together, and that no set that comes before them is one.
func checkGreatest(t *testing.T, x impl.System) {
	t.Helper()
	most, code := impl.MostIndependent(x)
	least, leastCode := impl.LeastMeeting(x)
	if code != impl.ErrNone || leastCode != impl.ErrNone || int64(len(most)+len(least)) != x.Points {
		t.Errorf("MostIndependent(%v) = %v, %d; LeastMeeting = %v, %d", x, most, code, least, leastCode)
	}
	if !isIndependent(t, x, most) || !meetsAll(t, x, othersThan(x.Points, most)) {
		t.Errorf("MostIndependent(%v) = %v", x, most)
	}
	if !meetsAll(t, x, least) || !isIndependent(t, x, othersThan(x.Points, least)) {
		t.Errorf("LeastMeeting(%v) = %v", x, least)
	}
	// The others of the set must not come before the set that is found, and neither way round.
	if others := othersThan(x.Points, most); slices.Compare(others, least) < 0 {
		t.Errorf("LeastMeeting(%v) = %v, but %v meets all blocks", x, least, others)
	}
	if others := othersThan(x.Points, least); slices.Compare(others, most) < 0 {
		t.Errorf("MostIndependent(%v) = %v, but %v is independent", x, most, others)
	}
}

func TestPromise17Greatest(t *testing.T) {
	for _, x := range slices.Concat(partSystems(t), madeSystems(t)[:25]) {
		checkGreatest(t, x)
	}
}

// TestPromise17Counts counts, for all sets of points, those whose others meet all blocks.
func TestPromise17Counts(t *testing.T) {
	for _, x := range []impl.System{named(t, "single"), named(t, "fano"), named(t, "affine"), {Points: 3}, {Points: 9}, fanoAnd(t, 9), system(t, "9:abc,def,ghi"), system(t, "7:abd,acg,aef,bce,bfg"), system(t, "10:abc,ade,bdf,cef,ghi")} {
		counts := make([]int64, impl.MaxPoints+1)
		var most, least []int64
		for _, set := range subsetsOf(x.Points) {
			if meetsAll(t, x, othersThan(x.Points, set)) {
				counts[len(set)]++
				if len(set) > len(most) {
					most = set
				}
			}
			if least == nil && meetsAll(t, x, set) {
				least = set
			}
		}
		for k, want := range counts {
			n, code := impl.CountIndependent(x, int64(k))
			wantValue(t, "CountIndependent", n, code, want, impl.ErrNone)
		}
		list, code := impl.MostIndependent(x)
		wantList(t, "MostIndependent", list, code, most, impl.ErrNone)
		list, code = impl.LeastMeeting(x)
		wantList(t, "LeastMeeting", list, code, least, impl.ErrNone)
	}
}

// TestPromise17Colours tests that the points of one colour of a colouring are independent, and the other
// ones meet all blocks.
func TestPromise17Colours(t *testing.T) {
	for _, x := range partSystems(t) {
		n, code := impl.ColourNumber(x)
		colours, firstCode := impl.FirstColouring(x, n)
		if code != impl.ErrNone || firstCode != impl.ErrNone {
			t.Fatalf("ColourNumber(%v) = %d, %d; FirstColouring: code %d", x, n, code, firstCode)
		}
		for c := range n {
			set := slices.DeleteFunc(identity(x.Points), func(a int64) bool { return colours[a] != c })
			if !isIndependent(t, x, set) || !meetsAll(t, x, othersThan(x.Points, set)) {
				t.Errorf("FirstColouring(%v, %d) = %v, where %v have one colour", x, n, colours, set)
			}
		}
	}
}
