package tests

import (
	"slices"
	"strings"
	"testing"

	"loop.example/g01355/impl"
)

// outside returns numbers that are not in 0..n - 1.
func outside(n int64) []int64 {
	return []int64{-1, n, n + 1, -n, 1 << 32, -1 << 32, mostInt, leastInt}
}

func TestConstants(t *testing.T) {
	codes := []int64{impl.ErrNone, impl.ErrInvalid, impl.ErrRange, impl.ErrLimit, impl.ErrNotFound, impl.ErrState, impl.ErrSyntax}
	if !slices.Equal(codes, []int64{0, 1, 2, 3, 4, 5, 6}) || impl.MaxPoints != 15 {
		t.Errorf("codes %v, MaxPoints %d", codes, impl.MaxPoints)
	}
}

func TestIsSystem(t *testing.T) {
	for _, x := range samples(t) {
		g, guard := guardSystem(x)
		if !impl.IsSystem(g) {
			t.Errorf("IsSystem(%v) = false", x)
		}
		guard.check(t, "IsSystem")
	}
	for v := int64(3); v <= 15; v++ {
		if !impl.IsSystem(impl.System{Points: v}) || !impl.IsSystem(impl.System{Points: v, Blocks: []impl.Block{{0, 1, v - 1}}}) {
			t.Errorf("IsSystem of %d points = false", v)
		}
	}
	for name, x := range invalidSystems() {
		g, guard := guardSystem(x)
		if impl.IsSystem(g) {
			t.Errorf("IsSystem of %s = true", name)
		}
		guard.check(t, "IsSystem of "+name)
	}
}

// TestInvalidSystems gives each function what is no system, beside good and bad other arguments:
// ErrInvalid comes before ErrRange.
func TestInvalidSystems(t *testing.T) {
	fano := named(t, "fano")
	none := impl.System{}
	for name, x := range invalidSystems() {
		full, code := impl.IsFull(x)
		wantValue(t, "IsFull of "+name, full, code, false, impl.ErrInvalid)
		for _, n := range []int64{0, 1, -1, 99, mostInt, leastInt} {
			a, code := impl.ThirdPoint(x, n, 1)
			wantValue(t, "ThirdPoint of "+name, a, code, 0, impl.ErrInvalid)
			l, code := impl.BlocksAt(x, n)
			wantList(t, "BlocksAt of "+name, l, code, nil, impl.ErrInvalid)
			y, code := impl.PutBlock(x, impl.Block{n, 5, 6})
			wantSystem(t, "PutBlock of "+name, y, code, none, impl.ErrInvalid)
			y, code = impl.TakeBlock(x, n)
			wantSystem(t, "TakeBlock of "+name, y, code, none, impl.ErrInvalid)
			y, code = impl.BlocksOn(x, []int64{n, 2, 3})
			wantSystem(t, "BlocksOn of "+name, y, code, none, impl.ErrInvalid)
			y, code = impl.RenumberSystem(x, []int64{n, 2, 0, 3, 4, 5, 6})
			wantSystem(t, "RenumberSystem of "+name, y, code, none, impl.ErrInvalid)
		}
		l, code := impl.DegreesOf(x)
		wantList(t, "DegreesOf of "+name, l, code, nil, impl.ErrInvalid)
		if left, code := impl.PairsLeft(x); len(left) != 0 || code != impl.ErrInvalid {
			t.Errorf("PairsLeft of %s = %v, %d", name, left, code)
		}
		blocks, code := impl.CommonBlocks(x, fano)
		wantList(t, "CommonBlocks, first "+name, blocks, code, nil, impl.ErrInvalid)
		blocks, code = impl.CommonBlocks(fano, x)
		wantList(t, "CommonBlocks, second "+name, blocks, code, nil, impl.ErrInvalid)
		blocks, code = impl.CommonBlocks(x, x)
		wantList(t, "CommonBlocks, both "+name, blocks, code, nil, impl.ErrInvalid)
		blocks, code = impl.FreeBlocks(x)
		wantList(t, "FreeBlocks of "+name, blocks, code, nil, impl.ErrInvalid)
		text, code := impl.SystemText(x)
		wantValue(t, "SystemText of "+name, text, code, "", impl.ErrInvalid)
	}
}

func TestSystemOf(t *testing.T) {
	random := randomNumbers(2)
	for _, x := range samples(t) {
		var mixed []impl.Block
		for _, i := range random.order(len(x.Blocks)) {
			b, o := x.Blocks[i], random.order(3)
			mixed = append(mixed, impl.Block{b[o[0]], b[o[1]], b[o[2]]})
		}
		g := guard(mixed, impl.Block{-7, -8, -9})
		y, code := impl.SystemOf(x.Points, g.list)
		wantSystem(t, "SystemOf", y, code, x, impl.ErrNone)
		g.check(t, "SystemOf")
		spoilSystem(y)
		g.check(t, "SystemOf, result overwritten")
	}
	for _, v := range []int64{3, 4, 14, 15} {
		y, code := impl.SystemOf(v, nil)
		wantSystem(t, "SystemOf without blocks", y, code, impl.System{Points: v}, impl.ErrNone)
	}
}

func TestSystemOfErrors(t *testing.T) {
	good := impl.Block{0, 1, 2}
	full := named(t, "projective15").Blocks
	for _, c := range []struct {
		what   string
		v      int64
		blocks []impl.Block
		code   int64
	}{
		{"two points", 2, nil, impl.ErrRange},
		{"two points and a block", 2, []impl.Block{good}, impl.ErrRange},
		{"sixteen points", 16, nil, impl.ErrRange},
		{"sixteen points and a block", 16, []impl.Block{good}, impl.ErrRange},
		{"no points", 0, nil, impl.ErrRange},
		{"negative points", -3, nil, impl.ErrRange},
		{"most points", mostInt, []impl.Block{good}, impl.ErrRange},
		{"least points", leastInt, []impl.Block{good}, impl.ErrRange},
		{"36 blocks", 15, slices.Concat(full, full[:1]), impl.ErrRange},
		{"35 blocks, a pair in two", 15, slices.Concat(full[:34], full[:1]), impl.ErrState},
		{"36 times a block", 3, slices.Repeat([]impl.Block{good}, 36), impl.ErrRange},
		{"35 times a block", 3, slices.Repeat([]impl.Block{good}, 35), impl.ErrState},
		{"point too great", 6, []impl.Block{{6, 0, 1}}, impl.ErrRange},
		{"point 15", 15, []impl.Block{{3, 15, 1}}, impl.ErrRange},
		{"negative point", 6, []impl.Block{{3, -1, 1}}, impl.ErrRange},
		{"most point", 6, []impl.Block{{3, mostInt, 1}}, impl.ErrRange},
		{"least point", 6, []impl.Block{{3, 1, leastInt}}, impl.ErrRange},
		{"first and second point equal", 6, []impl.Block{{4, 4, 5}}, impl.ErrRange},
		{"first and third point equal", 6, []impl.Block{{4, 5, 4}}, impl.ErrRange},
		{"second and third point equal", 6, []impl.Block{{5, 4, 4}}, impl.ErrRange},
		{"a block twice", 6, []impl.Block{good, {2, 1, 0}}, impl.ErrState},
		{"a pair in two", 6, []impl.Block{{5, 3, 4}, {2, 0, 1}, {0, 5, 3}}, impl.ErrState},
		{"first pair in two", 6, []impl.Block{{0, 1, 2}, {3, 1, 0}}, impl.ErrState},
		{"outer pair in two", 6, []impl.Block{{0, 1, 5}, {5, 3, 0}}, impl.ErrState},
		{"last pair in two", 6, []impl.Block{{0, 4, 5}, {5, 4, 1}}, impl.ErrState},
		{"a pair in two, then a bad block", 6, []impl.Block{good, {0, 1, 3}, {0, 4, 6}}, impl.ErrRange},
		{"a bad block, then a pair in two", 6, []impl.Block{{3, 4, 4}, good, {0, 1, 3}}, impl.ErrRange},
	} {
		g := guard(c.blocks, impl.Block{-7, -8, -9})
		y, code := impl.SystemOf(c.v, g.list)
		wantSystem(t, "SystemOf, "+c.what, y, code, impl.System{}, c.code)
		g.check(t, "SystemOf, "+c.what)
	}
	y, code := impl.SystemOf(15, full)
	wantSystem(t, "SystemOf of 35 blocks", y, code, named(t, "projective15"), impl.ErrNone)
}

func TestIsFull(t *testing.T) {
	for name := range namedTexts() {
		x, guard := guardSystem(named(t, name))
		full, code := impl.IsFull(x)
		wantValue(t, "IsFull of "+name, full, code, true, impl.ErrNone)
		guard.check(t, "IsFull of "+name)
		x.Blocks = x.Blocks[1:]
		full, code = impl.IsFull(x)
		wantValue(t, "IsFull without a block of "+name, full, code, false, impl.ErrNone)
	}
	for _, x := range partials() {
		left := 0
		for a := int64(0); a < x.Points; a++ {
			for b := a + 1; b < x.Points; b++ {
				if blockOf(x, a, b) < 0 {
					left++
				}
			}
		}
		full, code := impl.IsFull(x)
		wantValue(t, "IsFull", full, code, left == 0, impl.ErrNone)
	}
}

func TestThirdPoint(t *testing.T) {
	for _, plain := range samples(t) {
		x, guard := guardSystem(plain)
		for a := int64(0); a < x.Points; a++ {
			for b := int64(0); b < x.Points; b++ {
				want, wantCode := int64(0), int64(impl.ErrNotFound)
				if i := blockOf(x, a, b); a == b {
					wantCode = impl.ErrRange
				} else if i >= 0 {
					want, wantCode = x.Blocks[i][0]+x.Blocks[i][1]+x.Blocks[i][2]-a-b, impl.ErrNone
				}
				c, code := impl.ThirdPoint(x, a, b)
				wantValue(t, "ThirdPoint", c, code, want, wantCode)
			}
			for _, bad := range outside(x.Points) {
				c, code := impl.ThirdPoint(x, a, bad)
				wantValue(t, "ThirdPoint, second point outside", c, code, 0, impl.ErrRange)
				c, code = impl.ThirdPoint(x, bad, a)
				wantValue(t, "ThirdPoint, first point outside", c, code, 0, impl.ErrRange)
				c, code = impl.ThirdPoint(x, bad, bad)
				wantValue(t, "ThirdPoint, both points outside", c, code, 0, impl.ErrRange)
			}
		}
		guard.check(t, "ThirdPoint")
	}
}

func TestBlocksAtAndDegrees(t *testing.T) {
	for _, plain := range samples(t) {
		x, guard := guardSystem(plain)
		var wantDegrees []int64
		for p := int64(0); p < x.Points; p++ {
			var want []int64
			for i, b := range x.Blocks {
				if has(b, p) {
					want = append(want, int64(i))
				}
			}
			l, code := impl.BlocksAt(x, p)
			wantList(t, "BlocksAt", l, code, want, impl.ErrNone)
			wantDegrees = append(wantDegrees, int64(len(want)))
		}
		for _, p := range outside(x.Points) {
			l, code := impl.BlocksAt(x, p)
			wantList(t, "BlocksAt outside", l, code, nil, impl.ErrRange)
		}
		l, code := impl.DegreesOf(x)
		wantList(t, "DegreesOf", l, code, wantDegrees, impl.ErrNone)
		guard.check(t, "BlocksAt or DegreesOf")
	}
	l, code := impl.BlocksAt(named(t, "fano"), 3)
	wantList(t, "BlocksAt of fano", l, code, []int64{0, 5, 6}, impl.ErrNone)
	l, code = impl.DegreesOf(named(t, "affine"))
	wantList(t, "DegreesOf of affine", l, code, slices.Repeat([]int64{4}, 9), impl.ErrNone)
	l, code = impl.DegreesOf(impl.System{Points: 15})
	wantList(t, "DegreesOf without blocks", l, code, make([]int64, 15), impl.ErrNone)
}

func TestPairsLeft(t *testing.T) {
	for _, plain := range samples(t) {
		x, guard := guardSystem(plain)
		var want [][]int64
		for a := int64(0); a < x.Points; a++ {
			for b := a + 1; b < x.Points; b++ {
				if blockOf(x, a, b) < 0 {
					want = append(want, []int64{a, b})
				}
			}
		}
		left, code := impl.PairsLeft(x)
		if code != impl.ErrNone || !slices.EqualFunc(left, want, slices.Equal) {
			t.Errorf("PairsLeft(%v) = %v, %d; want %v", x, left, code, want)
		}
		for i := range left {
			spoil(left[i], -9)
			if i+1 < len(left) && !slices.Equal(left[i+1], want[i+1]) {
				t.Errorf("PairsLeft: pairs %d and %d share memory", i, i+1)
			}
		}
		guard.check(t, "PairsLeft")
	}
}

func TestPutBlock(t *testing.T) {
	for _, plain := range samples(t) {
		x, guard := guardSystem(plain)
		for _, b := range triples(x.Points) {
			y, code := impl.PutBlock(x, b)
			if !fitsIn(x, b) {
				wantSystem(t, "PutBlock of a taken pair", y, code, impl.System{}, impl.ErrState)
				continue
			}
			want := impl.System{Points: x.Points}
			for _, old := range x.Blocks {
				if slices.Compare(old[:], b[:]) < 0 {
					want.Blocks = append(want.Blocks, old)
				}
			}
			at := len(want.Blocks)
			want.Blocks = slices.Concat(want.Blocks, []impl.Block{b}, x.Blocks[at:])
			wantSystem(t, "PutBlock", y, code, want, impl.ErrNone)
			spoilSystem(y)
		}
		for _, bad := range outside(x.Points) {
			for _, b := range []impl.Block{{0, 1, bad}, {0, bad, 2}, {bad, 1, 2}, {bad, bad, bad}} {
				y, code := impl.PutBlock(x, b)
				wantSystem(t, "PutBlock of points outside", y, code, impl.System{}, impl.ErrRange)
			}
		}
		for _, b := range []impl.Block{{0, 0, 1}, {0, 1, 1}, {0, 0, 0}, {1, 0, 2}, {0, 2, 1}, {2, 1, 0}, {1, 2, 0}, {2, 0, 1}} {
			y, code := impl.PutBlock(x, b)
			wantSystem(t, "PutBlock of points that do not ascend", y, code, impl.System{}, impl.ErrRange)
		}
		guard.check(t, "PutBlock")
	}
}

func TestTakeBlock(t *testing.T) {
	for _, plain := range samples(t) {
		x, guard := guardSystem(plain)
		for i := range x.Blocks {
			want := impl.System{Points: x.Points, Blocks: slices.Concat(plain.Blocks[:i], plain.Blocks[i+1:])}
			y, code := impl.TakeBlock(x, int64(i))
			wantSystem(t, "TakeBlock", y, code, want, impl.ErrNone)
			spoilSystem(y)
		}
		for _, i := range outside(int64(len(x.Blocks))) {
			if i == 0 {
				continue
			}
			y, code := impl.TakeBlock(x, i)
			wantSystem(t, "TakeBlock outside", y, code, impl.System{}, impl.ErrRange)
		}
		guard.check(t, "TakeBlock")
	}
	y, code := impl.TakeBlock(impl.System{Points: 3}, 0)
	wantSystem(t, "TakeBlock without blocks", y, code, impl.System{}, impl.ErrRange)
	y, code = impl.TakeBlock(named(t, "single"), 0)
	wantSystem(t, "TakeBlock of single", y, code, impl.System{Points: 3}, impl.ErrNone)
}

func TestBlocksOn(t *testing.T) {
	random := randomNumbers(3)
	for _, plain := range samples(t) {
		x, guardX := guardSystem(plain)
		for size := int64(3); size <= x.Points; size++ {
			points := random.order(int(x.Points))[:size]
			slices.Sort(points)
			want := impl.System{Points: size}
			for _, b := range x.Blocks {
				i, j, k := slices.Index(points, b[0]), slices.Index(points, b[1]), slices.Index(points, b[2])
				if i >= 0 && j >= 0 && k >= 0 {
					want.Blocks = append(want.Blocks, impl.Block{int64(i), int64(j), int64(k)})
				}
			}
			g := guard(points, -7)
			y, code := impl.BlocksOn(x, g.list)
			wantSystem(t, "BlocksOn", y, code, want, impl.ErrNone)
			spoilSystem(y)
			g.check(t, "BlocksOn")
		}
		for _, bad := range outside(x.Points) {
			for _, points := range [][]int64{{0, 1, bad}, {bad, 1, 2}, {0, bad, 2}} {
				y, code := impl.BlocksOn(x, points)
				wantSystem(t, "BlocksOn points outside", y, code, impl.System{}, impl.ErrRange)
			}
		}
		for _, points := range [][]int64{nil, {}, {0}, {0, 1}, {0, 0, 1}, {0, 1, 1}, {0, 1, 2, 2}, {1, 0, 2}, {2, 1, 0}, {0, 2, 1}} {
			y, code := impl.BlocksOn(x, points)
			wantSystem(t, "BlocksOn points that are too few or do not ascend", y, code, impl.System{}, impl.ErrRange)
		}
		guardX.check(t, "BlocksOn")
	}
	fano := named(t, "fano")
	y, code := impl.BlocksOn(fano, []int64{0, 1, 3, 4})
	wantSystem(t, "BlocksOn of fano", y, code, system(t, "4:abc"), impl.ErrNone)
	y, code = impl.BlocksOn(fano, []int64{4, 5, 6})
	wantSystem(t, "BlocksOn without blocks", y, code, impl.System{Points: 3}, impl.ErrNone)
	y, code = impl.BlocksOn(fano, []int64{0, 1, 2, 3, 4, 5, 6})
	wantSystem(t, "BlocksOn all points", y, code, fano, impl.ErrNone)
}

func TestRenumberSystem(t *testing.T) {
	random := randomNumbers(4)
	for _, plain := range samples(t) {
		x, guardX := guardSystem(plain)
		for range 3 {
			p := random.order(int(x.Points))
			want := impl.System{Points: x.Points}
			for _, b := range triples(x.Points) {
				inBlock := func(old impl.Block) bool { return has(b, p[old[0]]) && has(b, p[old[1]]) && has(b, p[old[2]]) }
				if slices.ContainsFunc(x.Blocks, inBlock) {
					want.Blocks = append(want.Blocks, b)
				}
			}
			g := guard(p, -7)
			y, code := impl.RenumberSystem(x, g.list)
			wantSystem(t, "RenumberSystem", y, code, want, impl.ErrNone)
			spoilSystem(y)
			g.check(t, "RenumberSystem")
		}
		p := random.order(int(x.Points))
		lists := [][]int64{nil, {}, p[1:], slices.Concat(p, []int64{x.Points}), slices.Concat(p, []int64{0})}
		for _, bad := range append(outside(x.Points), p[0]) {
			list := slices.Clone(p)
			list[len(list)-1] = bad
			lists = append(lists, list)
		}
		for _, list := range lists {
			y, code := impl.RenumberSystem(x, list)
			wantSystem(t, "RenumberSystem by what is no such list", y, code, impl.System{}, impl.ErrRange)
		}
		guardX.check(t, "RenumberSystem")
	}
	// A list and its inverse differ here: p(a) stands in the place of a.
	y, code := impl.RenumberSystem(system(t, "7:abc,adg,def"), []int64{1, 2, 3, 4, 5, 6, 0})
	wantSystem(t, "RenumberSystem turned", y, code, system(t, "7:abe,bcd,efg"), impl.ErrNone)
}

func TestCommonBlocks(t *testing.T) {
	random := randomNumbers(5)
	list := samples(t)
	for _, x := range list[:len(list):len(list)] {
		turned, _ := impl.RenumberSystem(x, random.order(int(x.Points)))
		list = append(list, turned)
	}
	for _, plainX := range list {
		for _, plainY := range list {
			x, guardX := guardSystem(plainX)
			y, guardY := guardSystem(plainY)
			var want []impl.Block
			wantCode := int64(impl.ErrNone)
			if x.Points != y.Points {
				wantCode = impl.ErrRange
			} else {
				for _, b := range x.Blocks {
					if slices.Contains(y.Blocks, b) {
						want = append(want, b)
					}
				}
			}
			common, code := impl.CommonBlocks(x, y)
			wantList(t, "CommonBlocks", common, code, want, wantCode)
			spoil(common, impl.Block{-1, -1, -1})
			guardX.check(t, "CommonBlocks, first")
			guardY.check(t, "CommonBlocks, second")
		}
	}
}

func TestFreeBlocks(t *testing.T) {
	for _, plain := range samples(t) {
		x, guard := guardSystem(plain)
		var want []impl.Block
		for _, b := range triples(x.Points) {
			if fitsIn(x, b) {
				want = append(want, b)
			}
		}
		free, code := impl.FreeBlocks(x)
		wantList(t, "FreeBlocks", free, code, want, impl.ErrNone)
		guard.check(t, "FreeBlocks")
	}
	free, code := impl.FreeBlocks(impl.System{Points: 15})
	wantList(t, "FreeBlocks of 15 points", free, code, triples(15), impl.ErrNone)
	free, code = impl.FreeBlocks(impl.System{Points: 3})
	wantList(t, "FreeBlocks of 3 points", free, code, []impl.Block{{0, 1, 2}}, impl.ErrNone)
}

func TestNamedSystem(t *testing.T) {
	for name := range namedTexts() {
		x, code := impl.NamedSystem(name)
		wantSystem(t, "NamedSystem "+name, x, code, named(t, name), impl.ErrNone)
		spoilSystem(x)
		x, code = impl.NamedSystem(name)
		wantSystem(t, "NamedSystem again "+name, x, code, named(t, name), impl.ErrNone)
	}
	for _, name := range []string{"", " ", "Fano", "FANO", "fano ", " fano", "fan", "fanos", "cyclic", "cyclic1", "cyclic7", "cyclic9", "cyclic150", "projective", "projective7", "affine9", "singles", "fano\x00", "\xff", strings.Repeat("fano", 1000)} {
		x, code := impl.NamedSystem(name)
		wantSystem(t, "NamedSystem "+name, x, code, impl.System{}, impl.ErrNotFound)
	}
}

func TestSystemText(t *testing.T) {
	for name, want := range namedTexts() {
		x, guard := guardSystem(named(t, name))
		text, code := impl.SystemText(x)
		wantValue(t, "SystemText of "+name, text, code, want, impl.ErrNone)
		guard.check(t, "SystemText of "+name)
	}
	for _, want := range []string{"3:", "4:", "9:", "10:", "15:", "4:bcd", "15:abc", "15:mno", "10:aij", "7:abc,adg,def"} {
		text, code := impl.SystemText(system(t, want))
		wantValue(t, "SystemText", text, code, want, impl.ErrNone)
	}
}

func TestParseSystem(t *testing.T) {
	for name, text := range namedTexts() {
		x, code := impl.ParseSystem(text)
		wantSystem(t, "ParseSystem of "+name, x, code, named(t, name), impl.ErrNone)
		spoilSystem(x)
		x, code = impl.ParseSystem(text)
		wantSystem(t, "ParseSystem again of "+name, x, code, named(t, name), impl.ErrNone)
	}
	for v, text := range map[int64]string{3: "3:", 4: "4:", 9: "9:", 10: "10:", 14: "14:", 15: "15:"} {
		x, code := impl.ParseSystem(text)
		wantSystem(t, "ParseSystem of "+text, x, code, impl.System{Points: v}, impl.ErrNone)
	}
}

func TestParseSystemErrors(t *testing.T) {
	full := namedTexts()["projective15"]
	for _, text := range []string{
		"", ":", "::", "3", "7", "abc", ":abc", "3abc", " 3:", "3 :", "3: ", "3:\n", "\n3:", "3::", "3:abc:", "3:abc ", "3: abc", "7;abc",
		"0:", "1:", "2:", "2:abc", "16:", "16:abc", "100:", "-3:", "+3:", "-0:", "03:", "03:abc", "003:", "015:", "3.0:", "0x3:", "1_5:", "1e1:", "a:", "٣:",
		"9223372036854775807:", "9223372036854775808:", "18446744073709551619:", "99999999999999999999999:", "-9223372036854775808:",
		"3:,", "3:abc,", "3:,abc", "7:abc,,def", "7:abc, def", "7:abc;def", "7:abcdef", "7:abc.def", "3:a", "3:ab", "3:abcd", "4:abcd", "7:ab,cde", "7:a,b,c",
		"3:abd", "7:abh", "15:abp", "15:abz", "3:ABC", "3:abC", "3:012", "3:ab\x00", "3:ab`", "3:`ab", "3:ab\xff", "3:abé", "3:ab\xe3",
		"3:aab", "3:abb", "3:aaa", "3:bac", "3:acb", "3:cba", "6:def,abc", "7:adg,abc", "3:abc,abc", "4:abc,abd", "5:abc,ade,bce", "7:abe,ace",
		full + ",", full + ",klo", full + ",abc", full + ",mno", strings.Repeat("3:abc,", 1000), "3:" + strings.Repeat("abc,", 1000) + "abc", strings.Repeat("0", 1000) + "3:", strings.Repeat("3", 1000),
	} {
		x, code := impl.ParseSystem(text)
		wantSystem(t, "ParseSystem of "+text, x, code, impl.System{}, impl.ErrSyntax)
	}
}
