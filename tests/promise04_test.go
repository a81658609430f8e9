package tests

import (
	"slices"
	"testing"

	"loop.example/g01355/impl"
)

// Promise 4: trades that are carried out and back lead to the same system, and parts of trades are
// minimal. The guarantee adds that trades of Pasch and of cycles fit, and that parts of trades have
// all blocks. These tests use the program's own results only; the tests of the functions compare
// them with what is worked out apart.

// checkBack carries out a trade that fits a system, and its inverse, and returns the system between.
func checkBack(t *testing.T, x impl.System, change impl.Trade) impl.System {
	t.Helper()
	fits, code := impl.FitsSystem(x, change)
	wantValue(t, "FitsSystem", fits, code, true, impl.ErrNone)
	y, code := impl.CarryOut(x, change)
	if code != impl.ErrNone || !impl.IsSystem(y) || y.Points != x.Points || len(y.Blocks) != len(x.Blocks) {
		t.Errorf("CarryOut(%v, %v) = %v, %d", x, change, y, code)
	}
	left, _ := impl.PairsLeft(x)
	leftThen, code := impl.PairsLeft(y)
	wantRows(t, "PairsLeft of the system with a trade carried out", leftThen, code, left, impl.ErrNone)
	inverse, code := impl.InverseTrade(change)
	if code != impl.ErrNone || !impl.IsTrade(inverse) {
		t.Errorf("InverseTrade(%v) = %v, %d", change, inverse, code)
	}
	fits, code = impl.FitsSystem(y, inverse)
	wantValue(t, "FitsSystem of the inverse", fits, code, true, impl.ErrNone)
	z, code := impl.CarryOut(y, inverse)
	wantSystem(t, "CarryOut there and back", z, code, x, impl.ErrNone)
	again, code := impl.InverseTrade(inverse)
	wantTrade(t, "InverseTrade twice", again, code, change, impl.ErrNone)
	points, _ := impl.PointsOfTrade(change)
	pointsBack, code := impl.PointsOfTrade(inverse)
	wantList(t, "PointsOfTrade of the inverse", pointsBack, code, points, impl.ErrNone)
	return y
}

// checkMinimal checks that a trade is minimal, and its only part.
func checkMinimal(t *testing.T, what string, x impl.Trade) {
	t.Helper()
	minimal, code := impl.IsMinimalTrade(x)
	wantValue(t, "IsMinimalTrade of "+what, minimal, code, true, impl.ErrNone)
	parts, code := impl.PartsOfTrade(x)
	wantTrades(t, "PartsOfTrade of "+what, parts, code, []impl.Trade{x}, impl.ErrNone)
}

func TestPromise4Pasch(t *testing.T) {
	for _, x := range slices.Concat(partials(), madeSystems(t)) {
		trades, code := impl.PaschTrades(x)
		count, _ := impl.CountPasch(x)
		wantValue(t, "the number of PaschTrades", int64(len(trades)), code, count, impl.ErrNone)
		for _, change := range trades {
			if !impl.IsTrade(change) || len(change.Out) != 4 {
				t.Errorf("PaschTrades(%v) has %v", x, change)
			}
			points, code := impl.PointsOfTrade(change)
			wantValue(t, "the number of points of a Pasch", len(points), code, 6, impl.ErrNone)
			checkBack(t, x, change)
			checkMinimal(t, "a Pasch", change)
		}
	}
}

func TestPromise4Cycles(t *testing.T) {
	random := randomNumbers(48)
	for _, x := range madeSystems(t) {
		for range min(20, 2*(x.Points-3)) {
			p := random.order(int(x.Points))
			if c, _ := impl.ThirdPoint(x, p[0], p[1]); c == p[2] {
				continue
			}
			change, code := impl.CycleTrade(x, p[0], p[1], p[2])
			if code != impl.ErrNone || !impl.IsTrade(change) {
				t.Errorf("CycleTrade(%v, %v) = %v, %d", x, p[:3], change, code)
				continue
			}
			y := checkBack(t, x, change)
			if full, code := impl.IsFull(y); !full || code != impl.ErrNone {
				t.Errorf("CarryOut(%v, %v) is not full", x, change)
			}
			checkMinimal(t, "a cycle", change)
			cycles, _ := impl.CyclesOf(x, p[0], p[1])
			i := slices.IndexFunc(cycles, func(cycle []int64) bool { return slices.Contains(cycle, p[2]) })
			if i < 0 || len(change.Out) != len(cycles[i]) {
				t.Errorf("CycleTrade(%v, %v) = %v: the cycles are %v", x, p[:3], change, cycles)
			}
			// The same cycle of the points exchanged leads back, too.
			back, code := impl.CycleTrade(y, p[1], p[0], p[2])
			z, _ := impl.CarryOut(y, back)
			wantSystem(t, "CarryOut of a cycle there and back", z, code, x, impl.ErrNone)
		}
	}
}

// checkParts checks that the parts of a trade are minimal, have all blocks, each once, come with the
// least number of blocks first, and lead to the same system one after the other.
func checkParts(t *testing.T, x impl.Trade) {
	t.Helper()
	parts, code := impl.PartsOfTrade(x)
	if code != impl.ErrNone {
		t.Errorf("PartsOfTrade(%v): code %d", x, code)
	}
	start := impl.System{Points: x.Points, Blocks: x.Out}
	y := start
	for i, part := range parts {
		if !impl.IsTrade(part) || part.Points != x.Points {
			t.Errorf("PartsOfTrade(%v) has %v", x, part)
		}
		checkMinimal(t, "a part", part)
		if i > 0 {
			before := parts[i-1].Out
			if len(before) > len(part.Out) || len(before) == len(part.Out) && slices.CompareFunc(before, part.Out, compareBlocks) >= 0 {
				t.Errorf("PartsOfTrade(%v) has %v behind %v", x, part.Out, before)
			}
		}
		y = checkBack(t, y, part)
	}
	if len(parts) > 0 {
		wantTrade(t, "the parts side by side", joined(x.Points, parts...), impl.ErrNone, x, impl.ErrNone)
	}
	z, code := impl.CarryOut(start, x)
	wantSystem(t, "CarryOut of a trade", z, code, y, impl.ErrNone)
	minimal, code := impl.IsMinimalTrade(x)
	wantValue(t, "IsMinimalTrade", minimal, code, len(parts) == 1, impl.ErrNone)
}

func TestPromise4Parts(t *testing.T) {
	for _, x := range sampleTrades(t) {
		if len(x.Out) <= impl.MaxVolume {
			checkParts(t, x)
			inverse, _ := impl.InverseTrade(x)
			checkParts(t, inverse)
		}
	}
	for _, c := range handTrades(t) {
		checkParts(t, c.whole)
	}
}

// TestTradesRenumbered tests the main guarantee: what is counted stays if points are renumbered.
func TestTradesRenumbered(t *testing.T) {
	random := randomNumbers(49)
	for _, x := range slices.Concat(partials(), madeSystems(t)) {
		y, code := impl.RenumberSystem(x, random.order(int(x.Points)))
		if code != impl.ErrNone {
			t.Fatalf("RenumberSystem: code %d", code)
		}
		trades, _ := impl.PaschTrades(x)
		moved, code := impl.PaschTrades(y)
		wantValue(t, "the number of PaschTrades, renumbered", len(moved), code, len(trades), impl.ErrNone)
	}
	for _, x := range sampleTrades(t) {
		p := random.order(int(x.Points))
		parts, code := impl.PartsOfTrade(x)
		moved, movedCode := impl.PartsOfTrade(placed(x, x.Points, p...))
		if len(moved) != len(parts) || movedCode != code {
			t.Errorf("PartsOfTrade: %v, %d and renumbered %v, %d", parts, code, moved, movedCode)
		}
	}
}
