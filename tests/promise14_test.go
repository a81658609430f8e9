package tests

import (
	"slices"
	"testing"

	"loop.example/g01355/impl"
)

// Promise 14: isomorphic systems have as many Pasch. It is tested for all two systems of a list that
// are found isomorphic, and by the trades of Pasch: what is taken out of one is taken out of the other.
// These tests use the program's own results only; the tests of the functions compare them with what is
// worked out apart.

// countTrades returns the number of the trades of Pasch, which is that of the Pasch.
func countTrades(t *testing.T, x impl.System) int64 {
	t.Helper()
	trades, code := impl.PaschTrades(x)
	count, countCode := impl.CountPasch(x)
	wantValue(t, "the number of PaschTrades", int64(len(trades)), max(code, countCode), count, impl.ErrNone)
	return count
}

// relatives returns full systems of all kinds, in two numberings each, and such as trades of Pasch make
// of them.
func relatives(t *testing.T) []impl.System {
	t.Helper()
	random := randomNumbers(141)
	var list []impl.System
	for _, x := range kindsOfFulls(t) {
		y, code := impl.RenumberSystem(x, random.order(int(x.Points)))
		list = append(list, x, y)
		trades, tradesCode := impl.PaschTrades(y)
		if code != impl.ErrNone || tradesCode != impl.ErrNone {
			t.Fatalf("RenumberSystem: code %d; PaschTrades: code %d", code, tradesCode)
		}
		if len(trades) > 0 {
			z, code := impl.CarryOut(y, trades[random.below(len(trades))])
			if code != impl.ErrNone {
				t.Fatalf("CarryOut: code %d", code)
			}
			list = append(list, z)
		}
	}
	return list
}

func TestPromise14Isomorphic(t *testing.T) {
	list := relatives(t)
	counts := make([]int64, len(list))
	for i, x := range list {
		counts[i] = countTrades(t, x)
	}
	isomorphic, apart, alike := 0, 0, 0
	for i, x := range list {
		for k, y := range list[:i] {
			same, code := impl.AreIsomorphic(x, y)
			switch {
			case code != impl.ErrNone:
				t.Errorf("AreIsomorphic(%v, %v): code %d", x, y, code)
			case same && (x.Points != y.Points || counts[i] != counts[k]):
				t.Errorf("AreIsomorphic(%v, %v), with %d and %d Pasch", x, y, counts[i], counts[k])
			case same:
				isomorphic++
			case x.Points != y.Points || counts[i] != counts[k]:
				apart++
			default:
				alike++
			}
		}
	}
	// As many Pasch are not enough to be isomorphic: there must be such systems too.
	if isomorphic < 25 || apart < 500 || alike < 10 {
		t.Errorf("pairs of systems: isomorphic %d, with other numbers of Pasch %d, alike only %d", isomorphic, apart, alike)
	}
}

// TestPromise14Renumbered carries the Pasch themselves over, by the renumbering that is found.
func TestPromise14Renumbered(t *testing.T) {
	random := randomNumbers(142)
	for _, x := range slices.Concat(madeSystems(t), kindsOfFulls(t)) {
		y, code := impl.RenumberSystem(x, random.order(int(x.Points)))
		p, findCode := impl.FindRenumbering(x, y)
		if code != impl.ErrNone || findCode != impl.ErrNone {
			t.Fatalf("RenumberSystem: code %d; FindRenumbering(%v, %v): code %d", code, x, y, findCode)
		}
		wantValue(t, "the number of Pasch, renumbered", countTrades(t, y), code, countTrades(t, x), impl.ErrNone)
		trades, _ := impl.PaschTrades(x)
		images, _ := impl.PaschTrades(y)
		for _, change := range trades {
			moved := placed(change, y.Points, p...)
			if !slices.ContainsFunc(images, func(image impl.Trade) bool { return sameTrade(image, moved) }) {
				t.Errorf("the Pasch of %v is in %v, and its image not in %v", change, x, y)
			}
		}
	}
}
