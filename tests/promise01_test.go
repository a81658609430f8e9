package tests

import (
	"slices"
	"testing"

	"loop.example/g01355/impl"
)

// Promise 1: pairs that are left and pairs of blocks are all pairs, third points lead back, and
// systems come back from their texts. The guarantee adds that blocks that are put in can be taken
// out. These tests use the program's own results only; the tests of the functions compare them with
// what is worked out apart.

func TestPromise1Pairs(t *testing.T) {
	for _, x := range samples(t) {
		left, code := impl.PairsLeft(x)
		if code != impl.ErrNone {
			t.Fatalf("PairsLeft: code %d", code)
		}
		all := slices.Clone(left)
		for _, b := range x.Blocks {
			all = append(all, []int64{b[0], b[1]}, []int64{b[0], b[2]}, []int64{b[1], b[2]})
		}
		slices.SortFunc(all, slices.Compare)
		var want [][]int64
		for a := range x.Points {
			for b := a + 1; b < x.Points; b++ {
				want = append(want, []int64{a, b})
			}
		}
		if !slices.EqualFunc(all, want, slices.Equal) {
			t.Errorf("%v: the pairs left and those of blocks are %v", x, all)
		}
		if full, code := impl.IsFull(x); full != (len(left) == 0) || code != impl.ErrNone {
			t.Errorf("%v: IsFull = %v, %d with %d pairs left", x, full, code, len(left))
		}
	}
}

func TestPromise1ThirdPoints(t *testing.T) {
	for _, x := range samples(t) {
		for a := range x.Points {
			for b := range x.Points {
				c, code := impl.ThirdPoint(x, a, b)
				if code != impl.ErrNone {
					continue
				}
				for _, back := range []struct{ a, b, want int64 }{{b, a, c}, {a, c, b}, {c, a, b}, {b, c, a}, {c, b, a}} {
					got, code := impl.ThirdPoint(x, back.a, back.b)
					wantValue(t, "ThirdPoint back", got, code, back.want, impl.ErrNone)
				}
			}
		}
		left, _ := impl.PairsLeft(x)
		for _, p := range left {
			c, code := impl.ThirdPoint(x, p[0], p[1])
			wantValue(t, "ThirdPoint of a pair that is left", c, code, 0, impl.ErrNotFound)
		}
	}
}

func TestPromise1Texts(t *testing.T) {
	for _, x := range samples(t) {
		text, code := impl.SystemText(x)
		if code != impl.ErrNone {
			t.Errorf("SystemText(%v): code %d", x, code)
		}
		y, code := impl.ParseSystem(text)
		wantSystem(t, "ParseSystem of SystemText", y, code, x, impl.ErrNone)
	}
}

func TestPromise1PutAndTake(t *testing.T) {
	for _, x := range samples(t) {
		free, _ := impl.FreeBlocks(x)
		for _, b := range free {
			y, code := impl.PutBlock(x, b)
			if !impl.IsSystem(y) || code != impl.ErrNone {
				t.Errorf("PutBlock(%v, %v) = %v, %d", x, b, y, code)
			}
			z, code := impl.TakeBlock(y, int64(slices.Index(y.Blocks, b)))
			wantSystem(t, "TakeBlock after PutBlock", z, code, x, impl.ErrNone)
		}
		for i, b := range x.Blocks {
			y, code := impl.TakeBlock(x, int64(i))
			if !impl.IsSystem(y) || code != impl.ErrNone {
				t.Errorf("TakeBlock(%v, %d) = %v, %d", x, i, y, code)
			}
			z, code := impl.PutBlock(y, b)
			wantSystem(t, "PutBlock after TakeBlock", z, code, x, impl.ErrNone)
		}
	}
}
