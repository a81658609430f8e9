package tests

import (
	"slices"
	"testing"

	"loop.example/g01355/impl"
)

// Promise 7: spans are closed, and first colourings are colourings. The guarantee adds that subsystems
// are spans of themselves; that independent sets are the others of sets that meet all blocks is promise
// 17. These tests use the program's own results only; the tests of the functions compare them with what
// is worked out apart.

// spanOf returns the span of a set, which must be there.
func spanOf(t *testing.T, x impl.System, set []int64) []int64 {
	t.Helper()
	span, code := impl.SpanOf(x, set)
	if code != impl.ErrNone {
		t.Errorf("SpanOf(%v, %v): code %d", x, set, code)
	}
	return span
}

// isClosed reports what IsClosed says, which must not be an error.
func isClosed(t *testing.T, x impl.System, set []int64) bool {
	t.Helper()
	yes, code := impl.IsClosed(x, set)
	if code != impl.ErrNone {
		t.Errorf("IsClosed(%v, %v): code %d", x, set, code)
	}
	return yes
}

// checkSpan checks that a span is closed, has the set, and nothing that is not sought for: each point
// more is the third one of two points of the span.
func checkSpan(t *testing.T, x impl.System, set []int64) {
	t.Helper()
	span := spanOf(t, x, set)
	if !isClosed(t, x, span) || !hasAll(span, set) {
		t.Errorf("SpanOf(%v, %v) = %v", x, set, span)
	}
	if again := spanOf(t, x, span); !slices.Equal(again, span) {
		t.Errorf("SpanOf(%v, %v) = %v, whose span is %v", x, set, span, again)
	}
	if isClosed(t, x, set) != slices.Equal(span, set) {
		t.Errorf("SpanOf(%v, %v) = %v; IsClosed = %v", x, set, span, isClosed(t, x, set))
	}
	for _, a := range span {
		less := othersThan(x.Points, append(othersThan(x.Points, span), a))
		if hasAll(less, set) && isClosed(t, x, less) {
			t.Errorf("SpanOf(%v, %v) = %v, but %v is closed", x, set, span, less)
		}
	}
}

func TestPromise7Spans(t *testing.T) {
	random := randomNumbers(171)
	for _, x := range slices.Concat(partSystems(t), madeSystems(t)[:25]) {
		for _, set := range setsToTry(x, &random) {
			checkSpan(t, x, set)
		}
	}
}

// TestPromise7LeastClosed takes all sets of small systems: a span is in each closed set that has the set.
func TestPromise7LeastClosed(t *testing.T) {
	for _, x := range []impl.System{named(t, "single"), named(t, "fano"), {Points: 7}, fanoAnd(t, 8), system(t, "8:abc,ade,bdf,cfg"), system(t, "7:abd,acg,aef,bce,bfg")} {
		var closed [][]int64
		for _, set := range subsetsOf(x.Points) {
			if isClosed(t, x, set) {
				closed = append(closed, set)
			}
		}
		for _, set := range subsetsOf(x.Points) {
			span := spanOf(t, x, set)
			for _, other := range closed {
				if hasAll(other, set) && !hasAll(other, span) {
					t.Errorf("SpanOf(%v, %v) = %v, but %v is closed", x, set, span, other)
				}
			}
		}
	}
}

func TestPromise7Subsystems(t *testing.T) {
	for _, x := range slices.Concat(partSystems(t), madeSystems(t)[:25]) {
		list, code := impl.Subsystems(x)
		if code != impl.ErrNone || len(list) < len(x.Blocks) {
			t.Errorf("Subsystems(%v) = %v, %d", x, list, code)
		}
		for k, set := range list {
			if !isClosed(t, x, set) || !slices.Equal(spanOf(t, x, set), set) {
				t.Errorf("Subsystems(%v) has %v, with the span %v", x, set, spanOf(t, x, set))
			}
			if k > 0 && (len(list[k-1]) > len(set) || len(list[k-1]) == len(set) && slices.Compare(list[k-1], set) >= 0) {
				t.Errorf("Subsystems(%v) has %v before %v", x, list[k-1], set)
			}
		}
	}
}

// checkFirst checks that a first list of colours is a colouring, strict or not, and begins as least ones
// do: each colour comes behind all lesser ones.
func checkFirst(t *testing.T, what string, x impl.System, k int64, colours []int64, strict bool) {
	t.Helper()
	yes, code := impl.IsColouring(x, k, colours)
	wantValue(t, "IsColouring of "+what, yes, code, true, impl.ErrNone)
	yes, code = impl.IsStrict(x, k, colours)
	if code != impl.ErrNone || strict && !yes {
		t.Errorf("IsStrict(%v, %d, %v) of %s = %v, %d", x, k, colours, what, yes, code)
	}
	if strict && int64(countDifferent(colours...)) != k {
		t.Errorf("%s of %v for %d is %v", what, x, k, colours)
	}
	greatest := int64(-1)
	for _, c := range colours {
		if c > greatest+1 {
			t.Errorf("%s of %v for %d is %v", what, x, k, colours)
		}
		greatest = max(greatest, c)
	}
}

func TestPromise7FirstColourings(t *testing.T) {
	for _, x := range slices.Concat(partSystems(t), madeSystems(t)[:25]) {
		number, code := impl.ColourNumber(x)
		if code != impl.ErrNone || number < 1 || number > impl.MaxColours {
			t.Errorf("ColourNumber(%v) = %d, %d", x, number, code)
		}
		var before []int64
		for k := int64(1); k <= impl.MaxColours; k++ {
			first, code := impl.FirstColouring(x, k)
			if (code == impl.ErrNone) != (k >= number) || code != impl.ErrNone && code != impl.ErrNotFound {
				t.Errorf("FirstColouring(%v, %d) = %v, %d, and the colour number is %d", x, k, first, code, number)
			}
			if code == impl.ErrNone {
				checkFirst(t, "FirstColouring", x, k, first, false)
				// A colouring is one with more colours, too.
				if before != nil && slices.Compare(first, before) > 0 {
					t.Errorf("FirstColouring(%v, %d) = %v, and with a colour less %v", x, k, first, before)
				}
				before = first
			}
			strict, code := impl.FirstStrict(x, k)
			switch {
			case code == impl.ErrNone && k >= number:
				checkFirst(t, "FirstStrict", x, k, strict, true)
				if slices.Compare(strict, first) < 0 {
					t.Errorf("FirstStrict(%v, %d) = %v, FirstColouring = %v", x, k, strict, first)
				}
			case code != impl.ErrNotFound:
				t.Errorf("FirstStrict(%v, %d) = %v, %d, and the colour number is %d", x, k, strict, code, number)
			}
		}
	}
}

// checkNoLesser checks that no list before a given one, or none at all, is a colouring, or a strict one
// in which all colours are used.
func checkNoLesser(t *testing.T, x impl.System, k int64, first []int64, strict bool) {
	t.Helper()
	plainLists(x.Points, k, func(colours []int64) bool {
		if first != nil && slices.Compare(colours, first) >= 0 {
			return false
		}
		yes, code := impl.IsColouring(x, k, colours)
		if strict {
			yes, code = impl.IsStrict(x, k, colours)
			yes = yes && int64(countDifferent(colours...)) == k
		}
		if yes || code != impl.ErrNone {
			t.Errorf("%v is a colouring of %v with %d colours (strict: %v), %d; the first one was %v", colours, x, k, strict, code, first)
		}
		return !yes
	})
}

func TestPromise7NoLesserColouring(t *testing.T) {
	for _, c := range []struct {
		x    impl.System
		most int64
	}{
		{named(t, "single"), 6}, {impl.System{Points: 3}, 6}, {impl.System{Points: 4}, 5}, {system(t, "4:acd"), 5}, {system(t, "5:abc,ade"), 4},
		{system(t, "6:abd,ace,bcf,def"), 4}, {system(t, "6:abf,cde"), 4}, {named(t, "fano"), 3}, {system(t, "7:abd,acg,aef,bce,bfg"), 3}, {named(t, "affine"), 3},
	} {
		for k := int64(1); k <= c.most; k++ {
			first, _ := impl.FirstColouring(c.x, k)
			checkNoLesser(t, c.x, k, first, false)
			strict, _ := impl.FirstStrict(c.x, k)
			checkNoLesser(t, c.x, k, strict, true)
		}
	}
}

// TestPromise7CountColourings counts the lists that are called colourings.
func TestPromise7CountColourings(t *testing.T) {
	for _, x := range []impl.System{named(t, "single"), {Points: 3}, {Points: 8}, system(t, "4:acd"), system(t, "5:abc,ade"), named(t, "fano"), system(t, "7:abd,acg,aef,bce,bfg"), fanoAnd(t, 8), named(t, "affine")} {
		for k := int64(1); k <= 3; k++ {
			count := int64(0)
			plainLists(x.Points, k, func(colours []int64) bool {
				yes, code := impl.IsColouring(x, k, colours)
				if yes {
					count++
				}
				return code == impl.ErrNone
			})
			n, code := impl.CountColourings(x, k)
			wantValue(t, "CountColourings", n, code, count, impl.ErrNone)
		}
	}
}

// partCounts returns all that is counted of parts and colourings.
func partCounts(x impl.System) []int64 {
	subsystems, code := impl.Subsystems(x)
	counts := append(countBySize(subsystems), code)
	most, code := impl.MostIndependent(x)
	counts = append(counts, int64(len(most)), code)
	least, code := impl.LeastMeeting(x)
	counts = append(counts, int64(len(least)), code)
	n, code := impl.ColourNumber(x)
	counts = append(counts, n, code)
	for k := range int64(impl.MaxPoints + 1) {
		n, code = impl.CountIndependent(x, k)
		counts = append(counts, n, code)
	}
	for k := int64(1); k <= 3; k++ {
		n, code = impl.CountColourings(x, k)
		counts = append(counts, n, code)
	}
	for k := int64(1); k <= impl.MaxColours; k++ {
		_, code = impl.FirstColouring(x, k)
		_, strictCode := impl.FirstStrict(x, k)
		counts = append(counts, code, strictCode)
	}
	return counts
}

// TestPartsRenumbered tests the main guarantee: what is counted stays if points are renumbered, and so
// do closed sets, spans and independent sets, with their points renumbered.
func TestPartsRenumbered(t *testing.T) {
	random := randomNumbers(172)
	for _, x := range slices.Concat(partSystems(t), madeSystems(t)[:25]) {
		p := random.order(int(x.Points))
		y, code := impl.RenumberSystem(x, p)
		if code != impl.ErrNone {
			t.Fatalf("RenumberSystem: code %d", code)
		}
		wantList(t, "counts of parts, renumbered", partCounts(y), impl.ErrNone, partCounts(x), impl.ErrNone)
		for range 5 {
			set := random.order(int(x.Points))[:random.below(int(x.Points)+1)]
			slices.Sort(set)
			image := imageOf(set, p)
			if isClosed(t, x, set) != isClosed(t, y, image) || !slices.Equal(imageOf(spanOf(t, x, set), p), spanOf(t, y, image)) {
				t.Errorf("%v renumbered by %v: the closed sets or spans of %v and %v", x, p, set, image)
			}
			yes, code := impl.IsIndependent(x, set)
			other, otherCode := impl.IsIndependent(y, image)
			wantValue(t, "IsIndependent, renumbered", other, otherCode, yes, code)
		}
	}
}

// imageOf returns p(a) for all points a of a set, ascending.
func imageOf(set, p []int64) []int64 {
	var image []int64
	for _, a := range set {
		image = append(image, p[a])
	}
	slices.Sort(image)
	return image
}
