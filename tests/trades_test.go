package tests

import (
	"slices"
	"strconv"
	"testing"

	"loop.example/g01355/impl"
)

func compareBlocks(a, b impl.Block) int { return slices.Compare(a[:], b[:]) }

// sortedTrade returns a trade of blocks in any order, with points in any order.
func sortedTrade(v int64, out, in []impl.Block) impl.Trade {
	for _, blocks := range [][]impl.Block{out, in} {
		for i := range blocks {
			slices.Sort(blocks[i][:])
		}
		slices.SortFunc(blocks, compareBlocks)
	}
	return impl.Trade{Points: v, Out: out, In: in}
}

// trade reads the blocks of Out and of In, which are written as in texts of systems.
func trade(t *testing.T, v int64, out, in string) impl.Trade {
	t.Helper()
	return impl.Trade{Points: v, Out: system(t, ":"+out).Blocks, In: system(t, ":"+in).Blocks}
}

// paschOnSix is a trade of a Pasch, of the least points.
func paschOnSix(t *testing.T) impl.Trade {
	t.Helper()
	return trade(t, 6, "abc,ade,bdf,cef", "abd,ace,bcf,def")
}

// sixOnEight is the cycle trade of a and b with the cycle c, d, e, f, g, h.
func sixOnEight(t *testing.T) impl.Trade {
	t.Helper()
	return trade(t, 8, "acd,aef,agh,bch,bde,bfg", "ach,ade,afg,bcd,bef,bgh")
}

// sevenOnSeven has the blocks of two systems of 7 points that have none in common.
func sevenOnSeven(t *testing.T) impl.Trade {
	t.Helper()
	return trade(t, 7, "abd,acg,aef,bce,bfg,cdf,deg", "abc,ade,afg,bdf,beg,cdg,cef")
}

// placed returns a trade of v points with p(a) in the place of each point a.
func placed(x impl.Trade, v int64, p ...int64) impl.Trade {
	move := func(blocks []impl.Block) []impl.Block {
		var list []impl.Block
		for _, b := range blocks {
			list = append(list, impl.Block{p[b[0]], p[b[1]], p[b[2]]})
		}
		return list
	}
	return sortedTrade(v, move(x.Out), move(x.In))
}

// raised returns a trade of v points with all its points greater by a number.
func raised(x impl.Trade, v, by int64) impl.Trade {
	var p []int64
	for a := range x.Points {
		p = append(p, a+by)
	}
	return placed(x, v, p...)
}

// joined returns the trade that is trades side by side.
func joined(v int64, trades ...impl.Trade) impl.Trade {
	var out, in []impl.Block
	for _, x := range trades {
		out = append(out, x.Out...)
		in = append(in, x.In...)
	}
	return sortedTrade(v, out, in)
}

func inverted(x impl.Trade) impl.Trade {
	return impl.Trade{Points: x.Points, Out: x.In, In: x.Out}
}

// lessBlocks returns the blocks of the first list that are not in the second one.
func lessBlocks(blocks, other []impl.Block) []impl.Block {
	return slices.DeleteFunc(slices.Clone(blocks), func(b impl.Block) bool { return slices.Contains(other, b) })
}

// plainIsTrade takes the conditions of the document one by one.
func plainIsTrade(x impl.Trade) bool {
	if x.Points < 3 || x.Points > 15 {
		return false
	}
	var pairs [2][15][15]bool
	for side, blocks := range [][]impl.Block{x.Out, x.In} {
		for i, b := range blocks {
			if b[0] < 0 || b[0] >= b[1] || b[1] >= b[2] || b[2] >= x.Points || i > 0 && compareBlocks(blocks[i-1], b) >= 0 {
				return false
			}
			for _, p := range [][2]int64{{b[0], b[1]}, {b[0], b[2]}, {b[1], b[2]}} {
				if pairs[side][p[0]][p[1]] {
					return false
				}
				pairs[side][p[0]][p[1]] = true
			}
		}
	}
	return len(lessBlocks(x.Out, x.In)) == len(x.Out) && pairs[0] == pairs[1]
}

// choices returns all lists of k of the blocks, in lexicographic order.
func choices(blocks []impl.Block, k int) [][]impl.Block {
	if k == 0 {
		return [][]impl.Block{nil}
	}
	var list [][]impl.Block
	for i, b := range blocks {
		for _, rest := range choices(blocks[i+1:], k-1) {
			list = append(list, slices.Concat([]impl.Block{b}, rest))
		}
	}
	return list
}

// partOn returns some Out blocks of a trade with the In blocks that have no other pairs than these,
// and whether they are a trade. (No other In blocks can make one of them.)
func partOn(x impl.Trade, out []impl.Block) (impl.Trade, bool) {
	part := impl.Trade{Points: x.Points, Out: out}
	inside := impl.System{Points: x.Points, Blocks: out}
	for _, b := range x.In {
		if blockOf(inside, b[0], b[1]) >= 0 && blockOf(inside, b[0], b[2]) >= 0 && blockOf(inside, b[1], b[2]) >= 0 {
			part.In = append(part.In, b)
		}
	}
	return part, plainIsTrade(part)
}

// firstPart tries all sets of Out blocks, first by their numbers, then lexicographically.
func firstPart(x impl.Trade) impl.Trade {
	for k := 1; k <= len(x.Out); k++ {
		for _, out := range choices(x.Out, k) {
			if part, ok := partOn(x, out); ok {
				return part
			}
		}
	}
	return x
}

func plainParts(x impl.Trade) []impl.Trade {
	var parts []impl.Trade
	for len(x.Out) > 0 {
		part := firstPart(x)
		parts = append(parts, part)
		x = impl.Trade{Points: x.Points, Out: lessBlocks(x.Out, part.Out), In: lessBlocks(x.In, part.In)}
	}
	return parts
}

// plainIsMinimal tries all parts that are neither empty nor all.
func plainIsMinimal(x impl.Trade) bool {
	return len(x.Out) > 0 && len(firstPart(x).Out) == len(x.Out)
}

// plainPaschTrades takes points for the letters a to f of the document, in all ways.
func plainPaschTrades(x impl.System) []impl.Trade {
	thirds := plainThirds(x)
	var list []impl.Trade
	for a := range x.Points {
		for c := range x.Points {
			for d := range x.Points {
				e, f := thirds[a][c], thirds[a][d]
				if e < 0 || f < 0 || d == c || d == e {
					continue
				}
				if b := thirds[c][f]; b >= 0 && b == thirds[d][e] && b != a {
					list = append(list, sortedTrade(x.Points,
						[]impl.Block{{a, c, e}, {a, d, f}, {b, c, f}, {b, d, e}},
						[]impl.Block{{b, c, e}, {b, d, f}, {a, c, f}, {a, d, e}}))
				}
			}
		}
	}
	byOut := func(first, second impl.Trade) int {
		return slices.CompareFunc(first.Out, second.Out, compareBlocks)
	}
	slices.SortFunc(list, byOut)
	return slices.CompactFunc(list, sameTrade)
}

// plainCycleTrade gathers the points of the cycle, and looks at all blocks.
func plainCycleTrade(x impl.System, a, b, p int64) impl.Trade {
	thirds := plainThirds(x)
	on := []int64{p}
	for i := 0; i < len(on); i++ {
		for _, q := range []int64{thirds[a][on[i]], thirds[b][on[i]]} {
			if !slices.Contains(on, q) {
				on = append(on, q)
			}
		}
	}
	var out, in []impl.Block
	for _, block := range x.Blocks {
		var rest []int64
		for _, q := range block {
			if slices.Contains(on, q) {
				rest = append(rest, q)
			}
		}
		if len(rest) == 2 && (has(block, a) || has(block, b)) {
			out = append(out, block)
			in = append(in, impl.Block{a + b - (block[0] + block[1] + block[2] - rest[0] - rest[1]), rest[0], rest[1]})
		}
	}
	return sortedTrade(x.Points, out, in)
}

func plainDifference(x, y impl.System) impl.Trade {
	return impl.Trade{Points: x.Points, Out: lessBlocks(x.Blocks, y.Blocks), In: lessBlocks(y.Blocks, x.Blocks)}
}

func plainCarryOut(x impl.System, y impl.Trade) impl.System {
	blocks := append(lessBlocks(x.Blocks, y.Out), y.In...)
	slices.SortFunc(blocks, compareBlocks)
	return impl.System{Points: x.Points, Blocks: blocks}
}

// havePairsAlike reports whether two systems have as many points, and the same pairs in blocks.
func havePairsAlike(x, y impl.System) bool {
	for a := range x.Points {
		for b := range a {
			if (blockOf(x, a, b) >= 0) != (blockOf(y, a, b) >= 0) {
				return false
			}
		}
	}
	return x.Points == y.Points
}

// walks returns systems to which some exchanged Pasch and cycles lead from a full system, each a
// step from the one before it.
func walks(x impl.System, random *randomNumbers, steps int) []impl.System {
	var list []impl.System
	for range steps {
		p := random.order(int(x.Points))
		step := impl.Trade{Points: x.Points}
		if pasch := plainPaschTrades(x); len(pasch) > 0 && random.below(3) > 0 {
			step = pasch[random.below(len(pasch))]
		} else if int64(len(p)) > 3 && plainThirds(x)[p[0]][p[1]] != p[2] {
			step = plainCycleTrade(x, p[0], p[1], p[2])
		}
		x = plainCarryOut(x, step)
		list = append(list, x)
	}
	return list
}

// handTrade is a trade whose parts, in order, are known.
type handTrade struct {
	what  string
	whole impl.Trade
	parts []impl.Trade
}

func handTrades(t *testing.T) []handTrade {
	t.Helper()
	pasch, six, seven := paschOnSix(t), sixOnEight(t), sevenOnSeven(t)
	list := []handTrade{
		{what: "a Pasch", parts: []impl.Trade{pasch}},
		{what: "a Pasch of the last points", parts: []impl.Trade{raised(pasch, 15, 9)}},
		{what: "a cycle", parts: []impl.Trade{six}},
		{what: "two systems of 7 points", parts: []impl.Trade{seven}},
		{what: "two Pasch", parts: []impl.Trade{raised(pasch, 15, 0), raised(pasch, 15, 6)}},
		{what: "two Pasch with a point in common", parts: []impl.Trade{raised(pasch, 15, 0), raised(pasch, 15, 5)}},
		{what: "two Pasch with two in common", parts: []impl.Trade{raised(pasch, 12, 0), placed(pasch, 12, 0, 6, 7, 8, 9, 5)}},
		{what: "two Pasch whose blocks take turns", parts: []impl.Trade{placed(pasch, 15, 0, 1, 2, 10, 11, 12), placed(pasch, 15, 0, 3, 4, 6, 7, 8)}},
		{what: "a Pasch behind a cycle", parts: []impl.Trade{raised(pasch, 15, 8), raised(six, 15, 0)}},
		{what: "a cycle behind a Pasch", parts: []impl.Trade{raised(pasch, 15, 0), raised(six, 15, 6)}},
		{what: "a Pasch behind 7 points", parts: []impl.Trade{raised(pasch, 15, 7), raised(seven, 15, 0)}},
		{what: "two cycles, of MaxVolume", parts: []impl.Trade{raised(six, 15, 0), raised(six, 15, 7)}},
		{what: "three Pasch, of MaxVolume", parts: []impl.Trade{raised(pasch, 15, 0), placed(pasch, 15, 0, 11, 12, 13, 14, 5), raised(pasch, 15, 5)}},
	}
	for i, c := range list {
		list[i].whole = joined(c.parts[0].Points, c.parts...)
	}
	return append(list, handTrade{what: "empty, 3 points", whole: impl.Trade{Points: 3}}, handTrade{what: "empty, 15 points", whole: impl.Trade{Points: 15}})
}

// sampleTrades returns trades of volumes from 0 to that of full systems: of Pasch and of cycles,
// differences of systems, and trades side by side.
func sampleTrades(t *testing.T) []impl.Trade {
	t.Helper()
	var list []impl.Trade
	for v := int64(3); v <= impl.MaxPoints; v++ {
		list = append(list, impl.Trade{Points: v})
	}
	random := randomNumbers(41)
	for _, x := range fulls(t) {
		if x.Points == 3 {
			continue
		}
		pasch := plainPaschTrades(x)
		list = append(list, pasch[:min(len(pasch), 2)]...)
		for _, y := range walks(x, &random, 4) {
			list = append(list, plainDifference(x, y))
		}
		y := renumbered(x, random.order(int(x.Points)))
		list = append(list, plainDifference(x, y))
	}
	for _, x := range partials() {
		pasch := plainPaschTrades(x)
		list = append(list, pasch[:min(len(pasch), 2)]...)
	}
	for _, c := range handTrades(t) {
		list = append(list, c.whole)
	}
	// Any trades side by side that have no pair in common, in systems with many Pasch.
	pasch := plainPaschTrades(named(t, "projective15"))
	for range 100 {
		x := joined(15, pasch[random.below(105)], pasch[random.below(105)])
		y := joined(15, x, placed(pasch[random.below(105)], 15, random.order(15)...))
		for _, z := range []impl.Trade{x, y} {
			if plainIsTrade(z) {
				list = append(list, z)
			}
		}
	}
	return list
}

// tooGreat returns trades of the volume MaxVolume + 1, the second one minimal.
func tooGreat(t *testing.T) []impl.Trade {
	t.Helper()
	x := joined(15, raised(sevenOnSeven(t), 15, 0), raised(sixOnEight(t), 15, 7))
	random := randomNumbers(42)
	for {
		list := walks(named(t, "cyclic13"), &random, 4)
		y := plainDifference(named(t, "cyclic13"), list[3])
		if len(y.Out) == impl.MaxVolume+1 && plainIsMinimal(y) {
			return []impl.Trade{x, y}
		}
	}
}

// badSides returns what is no trade because a list, or both, are no systems, with the reasons.
func badSides() map[string]impl.Trade {
	bad := map[string]impl.Trade{}
	for name, x := range invalidSystems() {
		bad["both: "+name] = impl.Trade{Points: x.Points, Out: x.Blocks, In: x.Blocks}
		bad["Out: "+name] = impl.Trade{Points: x.Points, Out: x.Blocks}
		bad["In: "+name] = impl.Trade{Points: x.Points, In: x.Blocks}
	}
	return bad
}

// damagedTrades returns trades with something changed in Out, with the reasons.
func damagedTrades(t *testing.T) map[string]impl.Trade {
	t.Helper()
	pasch, seven := paschOnSix(t), sevenOnSeven(t)
	with := func(change func(blocks []impl.Block) []impl.Block) impl.Trade {
		return impl.Trade{Points: 15, Out: change(slices.Clone(pasch.Out)), In: pasch.In}
	}
	set := func(i, k int, a int64) impl.Trade {
		return with(func(blocks []impl.Block) []impl.Block {
			blocks[i][k] = a
			return blocks
		})
	}
	return map[string]impl.Trade{
		"first blocks descend":  with(func(l []impl.Block) []impl.Block { l[0], l[1] = l[1], l[0]; return l }),
		"last blocks descend":   with(func(l []impl.Block) []impl.Block { l[2], l[3] = l[3], l[2]; return l }),
		"a block twice":         with(func(l []impl.Block) []impl.Block { return slices.Concat(l[:1], l) }),
		"first block missing":   with(func(l []impl.Block) []impl.Block { return l[1:] }),
		"last block missing":    with(func(l []impl.Block) []impl.Block { return l[:3] }),
		"all blocks missing":    with(func(l []impl.Block) []impl.Block { return nil }),
		"one block more":        with(func(l []impl.Block) []impl.Block { return append(l, impl.Block{6, 7, 8}) }),
		"points of a block":     with(func(l []impl.Block) []impl.Block { l[0] = impl.Block{1, 0, 2}; return l }),
		"another block":         with(func(l []impl.Block) []impl.Block { l[3] = impl.Block{3, 4, 5}; return l }),
		"another point":         set(3, 2, 6),
		"a point too great":     set(3, 2, 15),
		"a point far too great": set(3, 2, mostInt),
		"a negative point":      set(0, 0, -1),
		"the least point":       set(0, 0, leastInt),
		"equal points":          set(1, 1, 0),
		"a pair in two of Out":  {Points: 7, Out: joined(7, seven, impl.Trade{Out: []impl.Block{{0, 1, 4}}}).Out, In: seven.In},
		"no block of In":        {Points: 6, Out: pasch.Out},
		"one other block":       {Points: 6, Out: []impl.Block{{0, 1, 2}}, In: []impl.Block{{0, 1, 3}}},
		"the points, not pairs": {Points: 6, Out: []impl.Block{{0, 1, 2}, {3, 4, 5}}, In: []impl.Block{{0, 1, 3}, {2, 4, 5}}},
		"two other Pasch":       {Points: 15, Out: pasch.Out, In: raised(pasch, 15, 1).In},
	}
}

// badPairs returns what is no trade although both lists have the same pairs, with the reasons.
func badPairs(t *testing.T) map[string]impl.Trade {
	t.Helper()
	pasch := paschOnSix(t)
	one := impl.Trade{Out: []impl.Block{{0, 1, 2}}, In: []impl.Block{{0, 1, 2}}}
	bad := map[string]impl.Trade{
		"a block in both lists":         {Points: 3, Out: one.Out, In: one.In},
		"a block more in both lists":    joined(15, pasch, raised(impl.Trade{Points: 3, Out: one.Out, In: one.In}, 15, 6)),
		"a last block in both lists":    joined(15, pasch, raised(impl.Trade{Points: 3, Out: one.Out, In: one.In}, 15, 12)),
		"a first block in both lists":   joined(15, raised(pasch, 15, 5), one),
		"all blocks in both lists":      {Points: 6, Out: pasch.Out, In: pasch.Out},
		"a pair in two of both lists":   joined(15, pasch, placed(pasch, 15, 0, 1, 6, 7, 8, 9)),
		"points less by 1":              raised(pasch, 15, -1),
		"points far less":               raised(pasch, 15, leastInt),
		"points greater than 14":        raised(pasch, 15, 10),
		"points far greater":            raised(pasch, 15, mostInt-5),
		"points greater by 2 to the 32": raised(pasch, 15, 1<<32),
	}
	for _, v := range []int64{5, 3, 2, 0, -6, 16, 1<<32 + 6, mostInt, leastInt} {
		bad["of "+strconv.FormatInt(v, 10)+" points"] = impl.Trade{Points: v, Out: pasch.Out, In: pasch.In}
	}
	return bad
}

// invalidTrades returns what is no trade, with the reasons; each one is given inverted, too.
func invalidTrades(t *testing.T) map[string]impl.Trade {
	t.Helper()
	bad := map[string]impl.Trade{}
	for _, list := range []map[string]impl.Trade{badSides(), damagedTrades(t), badPairs(t)} {
		for name, x := range list {
			bad[name] = x
			bad[name+", inverted"] = inverted(x)
		}
	}
	return bad
}

// guardedTrade has copies of both lists with known values in their spare capacity.
type guardedTrade struct {
	out, in guarded[impl.Block]
}

func guardTrade(x impl.Trade) (impl.Trade, guardedTrade) {
	g := guardedTrade{out: guard(x.Out, impl.Block{-7, -8, -9}), in: guard(x.In, impl.Block{-4, -5, -6})}
	return impl.Trade{Points: x.Points, Out: g.out.list, In: g.in.list}, g
}

func (g guardedTrade) check(t *testing.T, what string) {
	t.Helper()
	g.out.check(t, what+" (Out)")
	g.in.check(t, what+" (In)")
}

// checkTradeMemory overwrites the lists of trades, one after the other: no other may change.
func checkTradeMemory(t *testing.T, what string, trades ...impl.Trade) {
	t.Helper()
	var lists, before [][]impl.Block
	for _, x := range trades {
		lists = append(lists, x.Out, x.In)
		before = append(before, slices.Clone(x.Out), slices.Clone(x.In))
	}
	for i := range lists {
		spoil(lists[i], impl.Block{-1, -2, -3})
		for k := i + 1; k < len(lists); k++ {
			if !slices.Equal(lists[k], before[k]) {
				t.Errorf("%s: lists %d and %d share memory", what, i, k)
			}
		}
	}
}

func sameTrade(x, y impl.Trade) bool {
	return x.Points == y.Points && slices.Equal(x.Out, y.Out) && slices.Equal(x.In, y.In)
}

// wantTrade checks a trade and the code beside it; beside an error, want is the zero value.
func wantTrade(t *testing.T, what string, got impl.Trade, code int64, want impl.Trade, wantCode int64) {
	t.Helper()
	if code != wantCode || !sameTrade(got, want) {
		t.Errorf("%s = %v, %d; want %v, %d", what, got, code, want, wantCode)
	}
}

func wantTrades(t *testing.T, what string, got []impl.Trade, code int64, want []impl.Trade, wantCode int64) {
	t.Helper()
	if code != wantCode || !slices.EqualFunc(got, want, sameTrade) {
		t.Errorf("%s = %v, %d; want %v, %d", what, got, code, want, wantCode)
	}
}
