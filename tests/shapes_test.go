package tests

import (
	"slices"
	"testing"

	"loop.example/g01355/impl"
)

// plainThirds has the third point of each two points, or -1, by looking at all blocks.
func plainThirds(x impl.System) [impl.MaxPoints][impl.MaxPoints]int64 {
	var thirds [impl.MaxPoints][impl.MaxPoints]int64
	for a := range thirds {
		for b := range thirds[a] {
			thirds[a][b] = -1
			if i := blockOf(x, int64(a), int64(b)); i >= 0 && a != b {
				thirds[a][b] = x.Blocks[i][0] + x.Blocks[i][1] + x.Blocks[i][2] - int64(a) - int64(b)
			}
		}
	}
	return thirds
}

// inOrder returns lists in lexicographic order, each once.
func inOrder(lists [][]int64) [][]int64 {
	slices.SortFunc(lists, slices.Compare)
	return slices.CompactFunc(lists, slices.Equal)
}

// numbersOf returns the ascending numbers of the blocks of some pairs of points.
func numbersOf(x impl.System, pairs ...[2]int64) []int64 {
	var list []int64
	for _, p := range pairs {
		list = append(list, int64(blockOf(x, p[0], p[1])))
	}
	slices.Sort(list)
	return list
}

// plainPasch takes points for the letters a to f of the document, in all ways.
func plainPasch(x impl.System) [][]int64 {
	thirds := plainThirds(x)
	var list [][]int64
	for a := range x.Points {
		for c := range x.Points {
			for d := range x.Points {
				e, f := thirds[a][c], thirds[a][d]
				if e < 0 || f < 0 || d == c || d == e {
					continue
				}
				if b := thirds[c][f]; b >= 0 && b == thirds[d][e] && b != a {
					list = append(list, numbersOf(x, [2]int64{a, c}, [2]int64{a, d}, [2]int64{c, f}, [2]int64{d, e}))
				}
			}
		}
	}
	return inOrder(list)
}

// plainMitres takes points for the letters a to g of the document, in all ways, and returns the
// mitres and for each point the number of those with it as a.
func plainMitres(x impl.System) ([][]int64, []int64) {
	thirds := plainThirds(x)
	var all [][]int64
	centres := make([]int64, x.Points)
	for a := range x.Points {
		var list [][]int64
		for b := range x.Points {
			for d := range x.Points {
				c, e := thirds[a][b], thirds[a][d]
				if c < 0 || e < 0 || d == b || d == c {
					continue
				}
				f, g := thirds[b][d], thirds[c][e]
				if f >= 0 && g >= 0 && f != a && f != g && thirds[a][f] == g {
					list = append(list, numbersOf(x, [2]int64{a, b}, [2]int64{a, d}, [2]int64{a, f}, [2]int64{b, d}, [2]int64{c, e}))
				}
			}
		}
		list = inOrder(list)
		centres[a] = int64(len(list))
		all = append(all, list...)
	}
	return inOrder(all), centres
}

// exchanged returns x with the blocks of a Pasch exchanged: each gives way to the other three of the
// six points.
func exchanged(x impl.System, pasch []int64) impl.System {
	var points []int64
	for _, i := range pasch {
		points = append(points, x.Blocks[i][:]...)
	}
	slices.Sort(points)
	points = slices.Compact(points)
	y := impl.System{Points: x.Points, Blocks: slices.Clone(x.Blocks)}
	for _, i := range pasch {
		var rest []int64
		for _, a := range points {
			if !has(x.Blocks[i], a) {
				rest = append(rest, a)
			}
		}
		y.Blocks[i] = impl.Block(rest)
	}
	slices.SortFunc(y.Blocks, func(a, b impl.Block) int { return slices.Compare(a[:], b[:]) })
	return y
}

// renumbered returns x with p(a) in the place of each point a.
func renumbered(x impl.System, p []int64) impl.System {
	y := impl.System{Points: x.Points}
	for _, b := range x.Blocks {
		moved := impl.Block{p[b[0]], p[b[1]], p[b[2]]}
		slices.Sort(moved[:])
		y.Blocks = append(y.Blocks, moved)
	}
	slices.SortFunc(y.Blocks, func(a, b impl.Block) int { return slices.Compare(a[:], b[:]) })
	return y
}

// fulls returns full systems of all sizes: with names, threefold and doubled ones, and such as one
// gets to from these by exchanging the blocks of Pasch, again and again.
func fulls(t *testing.T) []impl.System {
	t.Helper()
	var list []impl.System
	for _, x := range samples(t) {
		if int64(6*len(x.Blocks)) == x.Points*(x.Points-1) {
			list = append(list, x)
		}
	}
	for _, rows := range sampleSquares() {
		if k := plainKinds(rows); k[0] && (k[1] || k[2]) {
			list = append(list, plainThreefold(rows))
		}
	}
	for _, x := range fullSystems(7)[:3] {
		list = append(list, x, plainDouble(x))
	}
	random := randomNumbers(31)
	for _, name := range []string{"projective15", "cyclic13", "fano"} {
		x := named(t, name)
		for range 15 {
			pasch := plainPasch(x)
			x = exchanged(x, pasch[random.below(len(pasch))])
			list = append(list, x)
		}
	}
	return list
}

// mixedSystems returns partial and full systems.
func mixedSystems(t *testing.T) []impl.System {
	t.Helper()
	return slices.Concat(partials(), notFull(t), fulls(t))
}

func wantRows(t *testing.T, what string, got [][]int64, code int64, want [][]int64, wantCode int64) {
	t.Helper()
	if code != wantCode || !sameRows(got, want) {
		t.Errorf("%s = %v, %d; want %v, %d", what, got, code, want, wantCode)
	}
}
