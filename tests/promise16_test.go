package tests

import (
	"slices"
	"testing"

	"loop.example/g01355/impl"
)

// Promise 16: subsystems are full systems. Such are the parts on them; and a part that is full is on a
// subsystem. These tests use the program's own results only; the tests of the functions compare them
// with what is worked out apart.

// isFullPart reports whether the part on at least three points is full.
func isFullPart(t *testing.T, x impl.System, points []int64) bool {
	t.Helper()
	part, code := impl.BlocksOn(x, points)
	full, fullCode := impl.IsFull(part)
	if code != impl.ErrNone || fullCode != impl.ErrNone {
		t.Errorf("BlocksOn(%v, %v) = %v, %d; IsFull: code %d", x, points, part, code, fullCode)
	}
	return full
}

func TestPromise16Subsystems(t *testing.T) {
	sizes := map[int]bool{}
	for _, x := range slices.Concat(partSystems(t), madeSystems(t)[:25]) {
		list, code := impl.Subsystems(x)
		wantValue(t, "the code of Subsystems", code, code, impl.ErrNone, impl.ErrNone)
		for _, set := range list {
			sizes[len(set)] = true
			if !isFullPart(t, x, set) {
				t.Errorf("Subsystems(%v) has %v, on which the part is not full", x, set)
			}
		}
		// A system is a subsystem of itself just if it is full, and its blocks always are.
		full, code := impl.IsFull(x)
		whole := len(list) > 0 && int64(len(list[len(list)-1])) == x.Points
		wantValue(t, "whether a system is its own subsystem", whole, code, full, impl.ErrNone)
		wantValue(t, "the number of subsystems of 3 points", countBySize(list)[3], code, int64(len(x.Blocks)), impl.ErrNone)
	}
	wantKeys(t, "points of a subsystem", sizes, 3, 7, 9, 13, 15)
}

// TestPromise16AllParts looks at the parts on all sets of points: those that are full are listed.
func TestPromise16AllParts(t *testing.T) {
	for _, x := range []impl.System{named(t, "single"), named(t, "fano"), named(t, "affine"), {Points: 3}, {Points: 9}, fanoAnd(t, 9), onMore(named(t, "affine"), 11), system(t, "9:abc,def,ghi"), system(t, "7:abd,acg,aef,bce,bfg")} {
		var full [][]int64
		for _, set := range subsetsOf(x.Points) {
			if len(set) >= 3 && isFullPart(t, x, set) {
				full = append(full, set)
			}
		}
		list, code := impl.Subsystems(x)
		wantRows(t, "Subsystems", list, code, full, impl.ErrNone)
	}
}

// TestPromise16Spans takes the spans of three points of full systems: each one is a subsystem.
func TestPromise16Spans(t *testing.T) {
	for _, name := range []string{"single", "fano", "affine", "cyclic13", "cyclic15", "projective15"} {
		x := named(t, name)
		list, code := impl.Subsystems(x)
		if code != impl.ErrNone {
			t.Errorf("Subsystems(%s): code %d", name, code)
		}
		for _, b := range triples(x.Points) {
			span := spanOf(t, x, b[:])
			if !slices.ContainsFunc(list, func(set []int64) bool { return slices.Equal(set, span) }) {
				t.Errorf("SpanOf(%s, %v) = %v, which is no subsystem", name, b, span)
			}
		}
	}
}

// TestPromise16Doubles finds the system in its double, and the double of each subsystem.
func TestPromise16Doubles(t *testing.T) {
	for _, x := range slices.Concat(fullSystems(3), fullSystems(7)) {
		y, code := impl.DoubleSystem(x)
		list, listCode := impl.Subsystems(y)
		if code != impl.ErrNone || listCode != impl.ErrNone {
			t.Fatalf("DoubleSystem: code %d; Subsystems: code %d", code, listCode)
		}
		v := x.Points
		parts, _ := impl.Subsystems(x)
		for _, set := range parts {
			double := slices.Clone(set)
			for _, a := range set {
				double = append(double, v+a)
			}
			for _, want := range [][]int64{set, append(double, 2*v)} {
				if !slices.ContainsFunc(list, func(other []int64) bool { return slices.Equal(other, want) }) {
					t.Errorf("the double of %v has not the subsystem %v, but %v", x, want, list)
				}
			}
		}
	}
}
