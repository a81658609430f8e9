package tests

import (
	"slices"
	"testing"

	"loop.example/g01355/impl"
)

// Promise 5: classes are sets of disjoint blocks with a third of the points as many, and first
// resolutions are resolutions. The guarantee adds that resolutions have each block once. These tests
// use the program's own results only; the tests of the functions compare them with what is worked
// out apart.

// checkClass checks that a set of blocks is disjoint, has each point once, and is called a class.
func checkClass(t *testing.T, x impl.System, class []int64) {
	t.Helper()
	disjoint, code := impl.AreDisjoint(x, class)
	wantValue(t, "AreDisjoint of a class", disjoint, code, true, impl.ErrNone)
	is, code := impl.IsClass(x, class)
	wantValue(t, "IsClass of a class", is, code, true, impl.ErrNone)
	var points []int64
	for _, i := range class {
		points = append(points, x.Blocks[i][:]...)
	}
	slices.Sort(points)
	if 3*int64(len(class)) != x.Points || len(slices.Compact(points)) != 3*len(class) {
		t.Errorf("the class %v of %v has the points %v", class, x, points)
	}
}

func TestPromise5Classes(t *testing.T) {
	for _, x := range slices.Concat(classSystems(t), madeSystems(t)) {
		list, code := impl.ClassList(x)
		classes, near, countCode := impl.CountClasses(x)
		wantValue(t, "the number of classes", classes, countCode, int64(len(list)), code)
		for k, class := range list {
			checkClass(t, x, class)
			if k > 0 && slices.Compare(list[k-1], class) >= 0 {
				t.Errorf("ClassList(%v) has %v before %v", x, list[k-1], class)
			}
		}
		// The classes and near classes are the disjoint blocks that leave out no point, or one.
		greatest, code := impl.CountDisjoint(x, x.Points/3)
		want := []int64{greatest, greatest, 0}[x.Points%3]
		wantValue(t, "the number of classes and near classes", classes+near, code, want, impl.ErrNone)
		if classes > 0 && x.Points%3 != 0 || near > 0 && x.Points%3 != 1 {
			t.Errorf("CountClasses(%v) = %d, %d", x, classes, near)
		}
		with := 0
		for i := range int64(len(x.Blocks)) {
			some, code := impl.ClassesWith(x, i)
			wantRows(t, "ClassesWith", some, code, slices.DeleteFunc(slices.Clone(list), func(class []int64) bool { return !slices.Contains(class, i) }), impl.ErrNone)
			with += len(some)
		}
		wantValue(t, "the number of classes with blocks", int64(with), impl.ErrNone, x.Points/3*classes, impl.ErrNone)
	}
}

// countMeeting returns the number of pairs of a block and one that meets it, in both orders.
func countMeeting(t *testing.T, x impl.System) int64 {
	t.Helper()
	n := 0
	for i := range int64(len(x.Blocks)) {
		list, code := impl.MeetingBlocks(x, i)
		if code != impl.ErrNone || slices.Contains(list, i) {
			t.Errorf("MeetingBlocks(%v, %d) = %v, %d", x, i, list, code)
		}
		for _, k := range list {
			disjoint, code := impl.AreDisjoint(x, []int64{min(i, k), max(i, k)})
			wantValue(t, "AreDisjoint of blocks that meet", disjoint, code, false, impl.ErrNone)
		}
		n += len(list)
	}
	return int64(n)
}

func TestPromise5Disjoint(t *testing.T) {
	for _, x := range slices.Concat(classSystems(t), madeSystems(t)) {
		b := int64(len(x.Blocks))
		var counts []int64
		for k := range int64(6) {
			n, code := impl.CountDisjoint(x, k)
			if code != impl.ErrNone {
				t.Errorf("CountDisjoint(%v, %d): code %d", x, k, code)
			}
			counts = append(counts, n)
		}
		wantList(t, "CountDisjoint of 0, 1 and 2", counts[:3], impl.ErrNone, []int64{1, b, (b*(b-1) - countMeeting(t, x)) / 2}, impl.ErrNone)
		most, code := impl.MostDisjoint(x)
		size := len(most)
		if code != impl.ErrNone || counts[size] == 0 || size < 5 && counts[size+1] > 0 {
			t.Errorf("MostDisjoint(%v) = %v, %d, with the counts %v", x, most, code, counts)
		}
		disjoint, code := impl.AreDisjoint(x, most)
		wantValue(t, "AreDisjoint of MostDisjoint", disjoint, code, true, impl.ErrNone)
		// If there are classes, they are the greatest sets, and the first one is the least of them.
		if list, _ := impl.ClassList(x); len(list) > 0 {
			wantList(t, "MostDisjoint", most, code, list[0], impl.ErrNone)
		}
	}
}

func TestPromise5Resolutions(t *testing.T) {
	for _, x := range slices.Concat(classSystems(t), madeSystems(t)) {
		first, code := impl.FirstResolution(x)
		n, countCode := impl.CountResolutions(x)
		if countCode != impl.ErrNone || (n > 0) != (code == impl.ErrNone) || n == 0 && code != impl.ErrNotFound {
			t.Errorf("FirstResolution(%v) = %v, %d; CountResolutions = %d, %d", x, first, code, n, countCode)
		}
		if code != impl.ErrNone {
			continue
		}
		is, code := impl.IsResolution(x, first)
		wantValue(t, "IsResolution of FirstResolution", is, code, true, impl.ErrNone)
		times := make([]int64, len(x.Blocks))
		for _, class := range first {
			checkClass(t, x, class)
			for _, i := range class {
				times[i]++
			}
		}
		wantList(t, "how often FirstResolution has the blocks", times, code, slices.Repeat([]int64{1}, len(x.Blocks)), impl.ErrNone)
		list, _ := impl.ClassList(x)
		for _, class := range first {
			if !slices.ContainsFunc(list, func(other []int64) bool { return slices.Equal(class, other) }) {
				t.Errorf("FirstResolution(%v) has %v", x, class)
			}
		}
	}
}

// TestClassesRenumbered tests the main guarantee: what is counted stays if points are renumbered.
func TestClassesRenumbered(t *testing.T) {
	random := randomNumbers(55)
	for _, x := range slices.Concat(classSystems(t), madeSystems(t)) {
		y, code := impl.RenumberSystem(x, random.order(int(x.Points)))
		if code != impl.ErrNone {
			t.Fatalf("RenumberSystem: code %d", code)
		}
		wantList(t, "counts of classes, renumbered", classCounts(y), impl.ErrNone, classCounts(x), impl.ErrNone)
	}
}

// classCounts returns all that is counted of classes, disjoint blocks and resolutions.
func classCounts(x impl.System) []int64 {
	classes, near, code := impl.CountClasses(x)
	resolutions, otherCode := impl.CountResolutions(x)
	most, _ := impl.MostDisjoint(x)
	first, firstCode := impl.FirstResolution(x)
	counts := []int64{classes, near, code, resolutions, otherCode, int64(len(most)), int64(len(first)), firstCode}
	for k := range int64(6) {
		n, _ := impl.CountDisjoint(x, k)
		counts = append(counts, n)
	}
	return counts
}
