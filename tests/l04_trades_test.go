package tests

import (
	"maps"
	"slices"
	"testing"

	"loop.example/g01355/impl"
)

// TestSampleTrades checks that the samples have what the tests of trades need.
func TestSampleTrades(t *testing.T) {
	volumes := map[int]bool{}
	parts := map[int]bool{}
	for _, x := range sampleTrades(t) {
		if !plainIsTrade(x) {
			t.Errorf("%v is no trade", x)
		}
		volumes[len(x.Out)] = true
		if len(x.Out) <= impl.MaxVolume {
			parts[len(plainParts(x))] = true
		}
	}
	for _, n := range []int{0, 4, 6, 7, 8, 9, 10, 11, 12, 13, 14, 20, 35} {
		if !volumes[n] {
			t.Errorf("no sample has the volume %d", n)
		}
	}
	for n := range 4 {
		if !parts[n] {
			t.Errorf("no sample has %d parts", n)
		}
	}
	for name, x := range invalidTrades(t) {
		if plainIsTrade(x) {
			t.Errorf("%s is a trade: %v", name, x)
		}
	}
}

func TestIsTrade(t *testing.T) {
	if impl.MaxVolume != 12 {
		t.Errorf("MaxVolume = %d", impl.MaxVolume)
	}
	for _, plain := range slices.Concat(sampleTrades(t), tooGreat(t)) {
		x, guard := guardTrade(plain)
		if !impl.IsTrade(x) || !impl.IsTrade(inverted(x)) {
			t.Errorf("IsTrade(%v) = false", x)
		}
		guard.check(t, "IsTrade")
	}
	for name, plain := range invalidTrades(t) {
		x, guard := guardTrade(plain)
		if impl.IsTrade(x) {
			t.Errorf("IsTrade of %s = true: %v", name, x)
		}
		guard.check(t, "IsTrade of "+name)
	}
}

// TestIsTradeChanged changes one point of trades, again and again; by chance some stay trades.
func TestIsTradeChanged(t *testing.T) {
	random := randomNumbers(43)
	for _, x := range sampleTrades(t) {
		for range min(len(x.Out), 6) {
			y := impl.Trade{Points: x.Points, Out: slices.Clone(x.Out), In: slices.Clone(x.In)}
			blocks := [][]impl.Block{y.Out, y.In}[random.below(2)]
			blocks[random.below(len(blocks))][random.below(3)] = int64(random.below(int(x.Points)+2) - 1)
			wantValue(t, "IsTrade", impl.IsTrade(y), impl.ErrNone, plainIsTrade(y), impl.ErrNone)
		}
	}
}

func TestPointsOfTrade(t *testing.T) {
	for _, plain := range sampleTrades(t) {
		x, guard := guardTrade(plain)
		var want []int64
		for a := range x.Points {
			if slices.ContainsFunc(plain.In, func(b impl.Block) bool { return has(b, a) }) {
				want = append(want, a)
			}
		}
		list, code := impl.PointsOfTrade(x)
		wantList(t, "PointsOfTrade", list, code, want, impl.ErrNone)
		guard.check(t, "PointsOfTrade")
	}
	list, code := impl.PointsOfTrade(raised(paschOnSix(t), 15, 9))
	wantList(t, "PointsOfTrade of the last points", list, code, []int64{9, 10, 11, 12, 13, 14}, impl.ErrNone)
	list, code = impl.PointsOfTrade(impl.Trade{Points: 3})
	wantList(t, "PointsOfTrade of the empty trade", list, code, nil, impl.ErrNone)
}

func TestInverseTrade(t *testing.T) {
	for _, plain := range sampleTrades(t) {
		x, guard := guardTrade(plain)
		y, code := impl.InverseTrade(x)
		wantTrade(t, "InverseTrade", y, code, inverted(plain), impl.ErrNone)
		checkTradeMemory(t, "InverseTrade", y)
		guard.check(t, "InverseTrade")
	}
}

func TestFitsSystemAndCarryOut(t *testing.T) {
	random := randomNumbers(44)
	for _, plain := range fulls(t) {
		for _, y := range walks(plain, &random, 3) {
			x, guardX := guardSystem(plain)
			change, guardT := guardTrade(plainDifference(plain, y))
			fits, code := impl.FitsSystem(x, change)
			wantValue(t, "FitsSystem", fits, code, true, impl.ErrNone)
			z, code := impl.CarryOut(x, change)
			wantSystem(t, "CarryOut", z, code, y, impl.ErrNone)
			spoilSystem(z)
			guardX.check(t, "FitsSystem or CarryOut")
			guardT.check(t, "FitsSystem or CarryOut")
		}
	}
}

// TestFitsSystemOfAny gives each system some trades of any kind: most do not fit.
func TestFitsSystemOfAny(t *testing.T) {
	trades := sampleTrades(t)
	random := randomNumbers(45)
	for _, plain := range mixedSystems(t) {
		for range 20 {
			change := trades[random.below(len(trades))]
			want := change.Points == plain.Points && len(lessBlocks(change.Out, plain.Blocks)) == 0
			fits, code := impl.FitsSystem(plain, change)
			wantValue(t, "FitsSystem", fits, code, want, impl.ErrNone)
			y, code := impl.CarryOut(plain, change)
			if want {
				wantSystem(t, "CarryOut", y, code, plainCarryOut(plain, change), impl.ErrNone)
			} else {
				wantSystem(t, "CarryOut of what does not fit", y, code, impl.System{}, impl.ErrState)
			}
		}
	}
}

func TestFitsSystemByHand(t *testing.T) {
	pasch := paschOnSix(t)
	for _, c := range []struct {
		what   string
		x      impl.System
		change impl.Trade
		want   bool
		then   string
	}{
		{"a Pasch alone", system(t, "6:abc,ade,bdf,cef"), pasch, true, "6:abd,ace,bcf,def"},
		{"a Pasch among others", system(t, "9:abc,ade,afg,bdf,cef,ghi"), raised(pasch, 9, 0), true, "9:abd,ace,afg,bcf,def,ghi"},
		{"its inverse", system(t, "9:abd,ace,afg,bcf,def,ghi"), raised(inverted(pasch), 9, 0), true, "9:abc,ade,afg,bdf,cef,ghi"},
		{"more points of the trade", system(t, "6:abc,ade,bdf,cef"), raised(pasch, 7, 0), false, ""},
		{"fewer points of the trade", system(t, "7:abc,ade,bdf,cef"), pasch, false, ""},
		{"first block missing", system(t, "6:ade,bdf,cef"), pasch, false, ""},
		{"last block missing", system(t, "6:abc,ade,bdf"), pasch, false, ""},
		{"In blocks there, not Out", system(t, "6:abd,ace,bcf,def"), pasch, false, ""},
		{"no blocks", impl.System{Points: 6}, pasch, false, ""},
		{"no blocks, empty trade", impl.System{Points: 3}, impl.Trade{Points: 3}, true, "3:"},
		{"empty trade", named(t, "fano"), impl.Trade{Points: 7}, true, "7:abd,acg,aef,bce,bfg,cdf,deg"},
		{"empty trade of 15 points", named(t, "cyclic15"), impl.Trade{Points: 15}, true, namedTexts()["cyclic15"]},
		{"empty trade of other points", named(t, "fano"), impl.Trade{Points: 9}, false, ""},
		{"two systems of 7 points", named(t, "fano"), sevenOnSeven(t), true, "7:abc,ade,afg,bdf,beg,cdg,cef"},
	} {
		fits, code := impl.FitsSystem(c.x, c.change)
		wantValue(t, "FitsSystem, "+c.what, fits, code, c.want, impl.ErrNone)
		y, code := impl.CarryOut(c.x, c.change)
		if c.want {
			wantSystem(t, "CarryOut, "+c.what, y, code, system(t, c.then), impl.ErrNone)
		} else {
			wantSystem(t, "CarryOut, "+c.what, y, code, impl.System{}, impl.ErrState)
		}
	}
}

func TestPaschTrades(t *testing.T) {
	for _, plain := range mixedSystems(t) {
		x, guard := guardSystem(plain)
		trades, code := impl.PaschTrades(x)
		wantTrades(t, "PaschTrades", trades, code, plainPaschTrades(plain), impl.ErrNone)
		checkTradeMemory(t, "PaschTrades", trades...)
		guard.check(t, "PaschTrades")
	}
}

func TestPaschTradesByHand(t *testing.T) {
	seven := []impl.Trade{
		trade(t, 7, "abd,acg,bce,deg", "abc,adg,bde,ceg"),
		trade(t, 7, "abd,acg,bfg,cdf", "abg,acd,bdf,cfg"),
		trade(t, 7, "abd,aef,bce,cdf", "abe,adf,bcd,cef"),
		trade(t, 7, "abd,aef,bfg,deg", "abf,ade,bdg,efg"),
		trade(t, 7, "acg,aef,bce,bfg", "ace,afg,bcg,bef"),
		trade(t, 7, "acg,aef,cdf,deg", "acf,aeg,cdg,def"),
		trade(t, 7, "bce,bfg,cdf,deg", "bcf,beg,cde,dfg"),
	}
	for _, c := range []struct {
		what string
		x    impl.System
		want []impl.Trade
	}{
		{"fano", named(t, "fano"), seven},
		{"one Pasch", system(t, "6:abc,ade,bdf,cef"), []impl.Trade{paschOnSix(t)}},
		{"one Pasch of the last of 15 points", system(t, "15:jkl,jmn,kmo,lno"), []impl.Trade{raised(paschOnSix(t), 15, 9)}},
		{"one Pasch among others", system(t, "9:abc,ade,afg,bdf,cef,ghi"), []impl.Trade{raised(paschOnSix(t), 9, 0)}},
		{"three blocks of a Pasch", system(t, "6:abc,ade,bdf"), nil},
		{"single", named(t, "single"), nil},
		{"affine", named(t, "affine"), nil},
		{"no blocks of 3 points", impl.System{Points: 3}, nil},
		{"no blocks of 15 points", impl.System{Points: 15}, nil},
	} {
		trades, code := impl.PaschTrades(c.x)
		wantTrades(t, "PaschTrades of "+c.what, trades, code, c.want, impl.ErrNone)
	}
}

// cycleCode is the code of CycleTrade for a system, by looking at its blocks.
func cycleCode(x impl.System, a, b, p int64) int64 {
	for _, q := range []int64{a, b, p} {
		if q < 0 || q >= x.Points {
			return impl.ErrRange
		}
	}
	if i := blockOf(x, a, b); a == b || p == a || p == b || i >= 0 && has(x.Blocks[i], p) {
		return impl.ErrRange
	}
	if int64(6*len(x.Blocks)) < x.Points*(x.Points-1) {
		return impl.ErrState
	}
	return impl.ErrNone
}

func checkCycleTrade(t *testing.T, x impl.System, a, b, p int64) {
	t.Helper()
	var want impl.Trade
	wantCode := cycleCode(x, a, b, p)
	if wantCode == impl.ErrNone {
		want = plainCycleTrade(x, a, b, p)
	}
	y, code := impl.CycleTrade(x, a, b, p)
	if code != wantCode || !sameTrade(y, want) {
		t.Errorf("CycleTrade(%v, %d, %d, %d) = %v, %d; want %v, %d", x, a, b, p, y, code, want, wantCode)
	}
}

// TestCycleTrade takes all points of small systems, and some of others, also equal ones.
func TestCycleTrade(t *testing.T) {
	random := randomNumbers(46)
	for _, plain := range mixedSystems(t) {
		x, guard := guardSystem(plain)
		n := x.Points * x.Points * x.Points
		for i := range min(n, 350) {
			if n > 350 {
				i = int64(random.below(int(n)))
			}
			checkCycleTrade(t, x, i/x.Points/x.Points, i/x.Points%x.Points, i%x.Points)
		}
		guard.check(t, "CycleTrade")
	}
}

// TestCycleTradeOfAll takes all points of the systems with names.
func TestCycleTradeOfAll(t *testing.T) {
	for _, name := range slices.Sorted(maps.Keys(namedTexts())) {
		x := named(t, name)
		for a := range x.Points {
			for b := range x.Points {
				for p := range x.Points {
					checkCycleTrade(t, x, a, b, p)
				}
			}
		}
	}
}

func TestCycleTradeByHand(t *testing.T) {
	fano, affine, cyclic := named(t, "fano"), named(t, "affine"), named(t, "cyclic13")
	short := trade(t, 13, "adm,agi,bdi,bgm", "adi,agm,bdm,bgi")
	long := trade(t, 13, "ach,afl,ajk,bcf,bhj,bkl", "acf,ahj,akl,bch,bfl,bjk")
	for _, c := range []struct {
		x       impl.System
		a, b, p int64
		want    impl.Trade
	}{
		{fano, 0, 1, 2, trade(t, 7, "acg,aef,bce,bfg", "ace,afg,bcg,bef")},
		{fano, 0, 1, 6, trade(t, 7, "acg,aef,bce,bfg", "ace,afg,bcg,bef")},
		{fano, 1, 0, 4, trade(t, 7, "acg,aef,bce,bfg", "ace,afg,bcg,bef")},
		{fano, 6, 5, 0, trade(t, 7, "acg,aef,cdf,deg", "acf,aeg,cdg,def")},
		{affine, 0, 1, 3, trade(t, 9, "adg,aei,afh,bdi,beh,bfg", "adi,aeh,afg,bdg,bei,bfh")},
		{cyclic, 0, 1, 3, short},
		{cyclic, 1, 0, 8, short},
		{cyclic, 0, 1, 12, short},
		{cyclic, 0, 1, 2, long},
		{cyclic, 1, 0, 11, long},
	} {
		y, code := impl.CycleTrade(c.x, c.a, c.b, c.p)
		wantTrade(t, "CycleTrade", y, code, c.want, impl.ErrNone)
		checkTradeMemory(t, "CycleTrade", y)
	}
}

// TestCycleTradeOutside gives points that are none: ErrRange comes before ErrState.
func TestCycleTradeOutside(t *testing.T) {
	for _, x := range mixedSystems(t) {
		none := impl.Trade{}
		for _, bad := range outside(x.Points) {
			for _, c := range [][3]int64{{bad, 0, 1}, {0, bad, 1}, {0, 1, bad}, {0, 2, bad}, {bad, bad, 0}, {bad, 0, bad}, {0, bad, bad}, {bad, bad, bad}} {
				y, code := impl.CycleTrade(x, c[0], c[1], c[2])
				wantTrade(t, "CycleTrade with a point that is none", y, code, none, impl.ErrRange)
			}
		}
		for a := range x.Points {
			b := (a + 1) % x.Points
			for _, c := range [][3]int64{{a, a, b}, {a, b, a}, {a, b, b}, {a, a, a}} {
				y, code := impl.CycleTrade(x, c[0], c[1], c[2])
				wantTrade(t, "CycleTrade with equal points", y, code, none, impl.ErrRange)
			}
		}
		for _, b := range x.Blocks {
			y, code := impl.CycleTrade(x, b[0], b[2], b[1])
			wantTrade(t, "CycleTrade with the third point", y, code, none, impl.ErrRange)
		}
	}
	y, code := impl.CycleTrade(impl.System{Points: 3}, 0, 1, 2)
	wantTrade(t, "CycleTrade of 3 points without a block", y, code, impl.Trade{}, impl.ErrState)
	y, code = impl.CycleTrade(system(t, "7:abc"), 0, 1, 3)
	wantTrade(t, "CycleTrade of 7 points with a block", y, code, impl.Trade{}, impl.ErrState)
}

// similar returns systems of which many have the same pairs in blocks.
func similar(t *testing.T, random *randomNumbers) []impl.System {
	t.Helper()
	list := slices.Concat(fullSystems(3), fullSystems(7))
	for _, name := range []string{"affine", "cyclic13", "cyclic15", "projective15"} {
		x := named(t, name)
		list = append(list, x)
		list = append(list, walks(x, random, 2)...)
		for range 4 {
			list = append(list, renumbered(x, random.order(int(x.Points))))
		}
	}
	for _, c := range handTrades(t) {
		list = append(list, impl.System{Points: c.whole.Points, Blocks: c.whole.Out}, impl.System{Points: c.whole.Points, Blocks: c.whole.In})
	}
	return list
}

func TestDifferenceTrade(t *testing.T) {
	random := randomNumbers(47)
	list := similar(t, &random)
	trades := 0
	for _, plainX := range list {
		for _, plainY := range list {
			x, guardX := guardSystem(plainX)
			y, guardY := guardSystem(plainY)
			var want impl.Trade
			wantCode := int64(impl.ErrState)
			if havePairsAlike(plainX, plainY) {
				trades++
				want, wantCode = plainDifference(plainX, plainY), impl.ErrNone
			}
			z, code := impl.DifferenceTrade(x, y)
			wantTrade(t, "DifferenceTrade", z, code, want, wantCode)
			checkTradeMemory(t, "DifferenceTrade", z)
			guardX.check(t, "DifferenceTrade, first system")
			guardY.check(t, "DifferenceTrade, second system")
		}
	}
	if trades < 1000 {
		t.Errorf("only %d differences are trades", trades)
	}
}

func TestDifferenceTradeByHand(t *testing.T) {
	fano, pasch := named(t, "fano"), paschOnSix(t)
	none := impl.Trade{}
	for _, c := range []struct {
		what string
		x, y impl.System
		want impl.Trade
		code int64
	}{
		{"a system and itself", fano, fano, impl.Trade{Points: 7}, impl.ErrNone},
		{"3 points", named(t, "single"), named(t, "single"), impl.Trade{Points: 3}, impl.ErrNone},
		{"3 points without blocks", impl.System{Points: 3}, impl.System{Points: 3}, impl.Trade{Points: 3}, impl.ErrNone},
		{"15 points without blocks", impl.System{Points: 15}, impl.System{Points: 15}, impl.Trade{Points: 15}, impl.ErrNone},
		{"two apart", fano, system(t, "7:abc,ade,afg,bdf,beg,cdg,cef"), sevenOnSeven(t), impl.ErrNone},
		{"a Pasch", system(t, "6:abc,ade,bdf,cef"), system(t, "6:abd,ace,bcf,def"), pasch, impl.ErrNone},
		{"a Pasch back", system(t, "6:abd,ace,bcf,def"), system(t, "6:abc,ade,bdf,cef"), inverted(pasch), impl.ErrNone},
		{"a Pasch among others", system(t, "9:abc,ade,afg,bdf,cef,ghi"), system(t, "9:abd,ace,afg,bcf,def,ghi"), raised(pasch, 9, 0), impl.ErrNone},
		{"more points", fano, system(t, "8:abd,acg,aef,bce,bfg,cdf,deg"), none, impl.ErrState},
		{"fewer points", system(t, "8:abd,acg,aef,bce,bfg,cdf,deg"), fano, none, impl.ErrState},
		{"other points without blocks", impl.System{Points: 3}, impl.System{Points: 4}, none, impl.ErrState},
		{"a block less", fano, system(t, "7:abd,acg,aef,bce,bfg,cdf"), none, impl.ErrState},
		{"a block more", system(t, "7:abd,acg,aef,bce,bfg,cdf"), fano, none, impl.ErrState},
		{"another block", system(t, "6:abc"), system(t, "6:abd"), none, impl.ErrState},
		{"as many blocks with the same points", system(t, "6:abc,def"), system(t, "6:abd,cef"), none, impl.ErrState},
		{"no blocks, and one", impl.System{Points: 3}, named(t, "single"), none, impl.ErrState},
		{"one block, and none", named(t, "single"), impl.System{Points: 3}, none, impl.ErrState},
	} {
		z, code := impl.DifferenceTrade(c.x, c.y)
		wantTrade(t, "DifferenceTrade of "+c.what, z, code, c.want, c.code)
	}
}

func TestMinimalAndParts(t *testing.T) {
	for _, plain := range sampleTrades(t) {
		x, guard := guardTrade(plain)
		var want []impl.Trade
		wantMinimal, wantCode := false, int64(impl.ErrLimit)
		if len(plain.Out) <= impl.MaxVolume {
			want, wantMinimal, wantCode = plainParts(plain), plainIsMinimal(plain), impl.ErrNone
		}
		minimal, code := impl.IsMinimalTrade(x)
		wantValue(t, "IsMinimalTrade", minimal, code, wantMinimal, wantCode)
		parts, code := impl.PartsOfTrade(x)
		wantTrades(t, "PartsOfTrade", parts, code, want, wantCode)
		checkTradeMemory(t, "PartsOfTrade", parts...)
		guard.check(t, "IsMinimalTrade or PartsOfTrade")
	}
}

func TestPartsByHand(t *testing.T) {
	for _, c := range handTrades(t) {
		for _, back := range []bool{false, true} {
			x, want := c.whole, slices.Clone(c.parts)
			if back {
				x = inverted(x)
				for i := range want {
					want[i] = inverted(want[i])
				}
			}
			parts, code := impl.PartsOfTrade(x)
			wantTrades(t, "PartsOfTrade of "+c.what, parts, code, want, impl.ErrNone)
			minimal, code := impl.IsMinimalTrade(x)
			wantValue(t, "IsMinimalTrade of "+c.what, minimal, code, len(want) == 1, impl.ErrNone)
		}
	}
}

// TestVolumes takes minimal trades of MaxVolume, and trades of one more.
func TestVolumes(t *testing.T) {
	threefold := plainThreefold(ruledSquare(5, 3, 3, 0))
	cycles := 0
	for p := range int64(15) {
		if cycleCode(threefold, 0, 1, p) != impl.ErrNone {
			continue
		}
		x := plainCycleTrade(threefold, 0, 1, p)
		if len(x.Out) == impl.MaxVolume {
			cycles++
			minimal, code := impl.IsMinimalTrade(x)
			wantValue(t, "IsMinimalTrade of MaxVolume", minimal, code, true, impl.ErrNone)
			parts, code := impl.PartsOfTrade(x)
			wantTrades(t, "PartsOfTrade of MaxVolume", parts, code, []impl.Trade{x}, impl.ErrNone)
		}
	}
	if cycles == 0 {
		t.Error("no cycle has MaxVolume")
	}
	for _, x := range tooGreat(t) {
		if len(x.Out) != impl.MaxVolume+1 {
			t.Errorf("%v has the volume %d", x, len(x.Out))
		}
		minimal, code := impl.IsMinimalTrade(x)
		wantValue(t, "IsMinimalTrade of a volume too great", minimal, code, false, impl.ErrLimit)
		parts, code := impl.PartsOfTrade(x)
		wantTrades(t, "PartsOfTrade of a volume too great", parts, code, nil, impl.ErrLimit)
		// The other functions have no limit.
		y, code := impl.InverseTrade(x)
		wantTrade(t, "InverseTrade of a volume too great", y, code, inverted(x), impl.ErrNone)
	}
}

// TestInvalidTrades gives each function what is no trade, beside systems that it would not fit, and
// of volumes that would be too great: ErrInvalid comes first.
func TestInvalidTrades(t *testing.T) {
	none := impl.Trade{}
	systems := []impl.System{named(t, "fano"), named(t, "cyclic15"), {Points: 6}, {Points: 15}, {}}
	for name, plain := range invalidTrades(t) {
		x, guard := guardTrade(plain)
		list, code := impl.PointsOfTrade(x)
		wantList(t, "PointsOfTrade of "+name, list, code, nil, impl.ErrInvalid)
		y, code := impl.InverseTrade(x)
		wantTrade(t, "InverseTrade of "+name, y, code, none, impl.ErrInvalid)
		minimal, code := impl.IsMinimalTrade(x)
		wantValue(t, "IsMinimalTrade of "+name, minimal, code, false, impl.ErrInvalid)
		parts, code := impl.PartsOfTrade(x)
		wantTrades(t, "PartsOfTrade of "+name, parts, code, nil, impl.ErrInvalid)
		for _, s := range append(systems, impl.System{Points: x.Points, Blocks: x.Out}) {
			fits, code := impl.FitsSystem(s, x)
			wantValue(t, "FitsSystem of "+name, fits, code, false, impl.ErrInvalid)
			z, code := impl.CarryOut(s, x)
			wantSystem(t, "CarryOut of "+name, z, code, impl.System{}, impl.ErrInvalid)
		}
		guard.check(t, "functions of "+name)
	}
}

// TestTradesOfInvalidSystems gives each function what is no system, beside good and bad other
// arguments: ErrInvalid comes before ErrRange and ErrState.
func TestTradesOfInvalidSystems(t *testing.T) {
	none := impl.Trade{}
	fano := named(t, "fano")
	trades := []impl.Trade{paschOnSix(t), sevenOnSeven(t), {Points: 7}, {Points: 3}, {Points: 15}, {}}
	for name, plain := range invalidSystems() {
		x, guard := guardSystem(plain)
		for _, change := range append(trades, impl.Trade{Points: x.Points}) {
			fits, code := impl.FitsSystem(x, change)
			wantValue(t, "FitsSystem of "+name, fits, code, false, impl.ErrInvalid)
			y, code := impl.CarryOut(x, change)
			wantSystem(t, "CarryOut of "+name, y, code, impl.System{}, impl.ErrInvalid)
		}
		list, code := impl.PaschTrades(x)
		wantTrades(t, "PaschTrades of "+name, list, code, nil, impl.ErrInvalid)
		for _, c := range [][3]int64{{0, 1, 2}, {0, 2, 4}, {0, 0, 1}, {0, 1, 1}, {-1, 0, 1}, {0, 99, 1}, {0, 1, mostInt}, {leastInt, mostInt, -1}} {
			y, code := impl.CycleTrade(x, c[0], c[1], c[2])
			wantTrade(t, "CycleTrade of "+name, y, code, none, impl.ErrInvalid)
		}
		for _, pair := range [][2]impl.System{{x, fano}, {fano, x}, {x, x}, {x, {Points: 3}}, {{Points: 15}, x}} {
			y, code := impl.DifferenceTrade(pair[0], pair[1])
			wantTrade(t, "DifferenceTrade of "+name, y, code, none, impl.ErrInvalid)
		}
		guard.check(t, "trades of "+name)
	}
}

// TestTradesAgain calls functions twice, with the first results overwritten: nothing is kept.
func TestTradesAgain(t *testing.T) {
	x := named(t, "cyclic13")
	y := plainCarryOut(x, plainPaschTrades(x)[3])
	both := joined(15, raised(paschOnSix(t), 15, 8), raised(sixOnEight(t), 15, 0))
	for range 2 {
		list, code := impl.PaschTrades(x)
		wantTrades(t, "PaschTrades", list, code, plainPaschTrades(x), impl.ErrNone)
		checkTradeMemory(t, "PaschTrades", list...)
		z, code := impl.CycleTrade(x, 0, 1, 3)
		wantTrade(t, "CycleTrade", z, code, plainCycleTrade(x, 0, 1, 3), impl.ErrNone)
		checkTradeMemory(t, "CycleTrade", z)
		z, code = impl.DifferenceTrade(x, y)
		wantTrade(t, "DifferenceTrade", z, code, plainPaschTrades(x)[3], impl.ErrNone)
		checkTradeMemory(t, "DifferenceTrade", z)
		list, code = impl.PartsOfTrade(both)
		wantTrades(t, "PartsOfTrade", list, code, plainParts(both), impl.ErrNone)
		checkTradeMemory(t, "PartsOfTrade", list...)
	}
}
