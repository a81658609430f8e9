package tests

import (
	"slices"
	"testing"

	"loop.example/g01355/impl"
)

// Promise 12, its first half: doubles have the system in them.

func TestPromise12Doubles(t *testing.T) {
	for _, x := range slices.Concat(fullSystems(3), fullSystems(7)) {
		y, code := impl.DoubleSystem(x)
		if code != impl.ErrNone {
			t.Fatalf("DoubleSystem(%v): code %d", x, code)
		}
		var points []int64
		for a := range x.Points {
			points = append(points, a)
		}
		part, code := impl.BlocksOn(y, points)
		wantSystem(t, "BlocksOn the points of a doubled system", part, code, x, impl.ErrNone)
		for _, b := range x.Blocks {
			if !slices.Contains(y.Blocks, b) {
				t.Errorf("the double %v of %v has not the block %v", y, x, b)
			}
		}
	}
}
