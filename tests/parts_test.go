package tests

import (
	"slices"
	"sync"
	"testing"

	"loop.example/g01355/impl"
)

// subsets has the sets of points of each number of points, which many tests go through.
var (
	subsets     = map[int64][][]int64{}
	subsetsLock sync.Mutex
)

// subsetsOf returns all sets of v points, ordered by their numbers of points and then lexicographically:
// those of k points are those of k - 1 with a greater point behind them.
func subsetsOf(v int64) [][]int64 {
	subsetsLock.Lock()
	defer subsetsLock.Unlock()
	if subsets[v] == nil {
		all := [][]int64{{}}
		for i := 0; i < len(all); i++ {
			for a := range v {
				if set := all[i]; len(set) == 0 || set[len(set)-1] < a {
					all = append(all, append(slices.Clone(set), a))
				}
			}
		}
		subsets[v] = all
	}
	return subsets[v]
}

// partTables is a system with its tables of third points and of blocks.
type partTables struct {
	x      impl.System
	thirds [impl.MaxPoints][impl.MaxPoints]int64
	blocks *blockTable
}

func partTablesOf(x impl.System) *partTables {
	return &partTables{x: x, thirds: plainThirds(x), blocks: tableOf(x)}
}

func (p *partTables) isClosed(set []int64) bool {
	for _, a := range set {
		for _, b := range set {
			if c := p.thirds[a][b]; c >= 0 && !slices.Contains(set, c) {
				return false
			}
		}
	}
	return true
}

func (p *partTables) isSubsystem(set []int64) bool {
	for _, a := range set {
		for _, b := range set {
			if a != b && !slices.Contains(set, p.thirds[a][b]) {
				return false
			}
		}
	}
	return len(set) >= 3
}

func (p *partTables) isIndependent(set []int64) bool {
	for _, a := range set {
		for _, b := range set {
			for _, c := range set {
				if p.blocks[a][b][c] {
					return false
				}
			}
		}
	}
	return true
}

func (p *partTables) meetsAll(set []int64) bool {
	for _, b := range p.x.Blocks {
		if !slices.ContainsFunc(set, func(a int64) bool { return has(b, a) }) {
			return false
		}
	}
	return true
}

// list returns all sets of points that pass a test, in order.
func (p *partTables) list(passes func([]int64) bool) [][]int64 {
	var list [][]int64
	for _, set := range subsetsOf(p.x.Points) {
		if passes(set) {
			list = append(list, set)
		}
	}
	return list
}

// hasAll reports whether all points of a part are in a set.
func hasAll(set, part []int64) bool {
	return !slices.ContainsFunc(part, func(a int64) bool { return !slices.Contains(set, a) })
}

// plainSpan returns the first of the closed sets that have a set: as what closed sets have in common is
// closed, no other one has as few points.
func plainSpan(closed [][]int64, set []int64) []int64 {
	return closed[slices.IndexFunc(closed, func(other []int64) bool { return hasAll(other, set) })]
}

// countBySize returns for k in 0..MaxPoints how many of the sets have k points.
func countBySize(sets [][]int64) []int64 {
	counts := make([]int64, impl.MaxPoints+1)
	for _, set := range sets {
		counts[len(set)]++
	}
	return counts
}

// othersThan returns the points that are not in a set.
func othersThan(v int64, set []int64) []int64 {
	return slices.DeleteFunc(identity(v), func(a int64) bool { return slices.Contains(set, a) })
}

// countDifferent returns how many different colours there are.
func countDifferent(colours ...int64) int {
	seen := map[int64]bool{}
	for _, c := range colours {
		seen[c] = true
	}
	return len(seen)
}

// allowed tells how many different colours the points of a block have in colourings.
func allowed(n int) bool { return n > 1 }

// allowedStrictly tells the same for strict ones.
func allowedStrictly(n int) bool { return n == 2 }

// plainKeeps reports whether all blocks have numbers of different colours that are allowed.
func plainKeeps(x impl.System, colours []int64, allows func(int) bool) bool {
	return !slices.ContainsFunc(x.Blocks, func(b impl.Block) bool {
		return !allows(countDifferent(colours[b[0]], colours[b[1]], colours[b[2]]))
	})
}

// plainLists calls visit with all lists of n colours of k, in order, till it returns false.
func plainLists(n, k int64, visit func([]int64) bool) {
	for colours := make([]int64, n); visit(slices.Clone(colours)); {
		i := n - 1
		for i >= 0 && colours[i] == k-1 {
			colours[i] = 0
			i--
		}
		if i < 0 {
			return
		}
		colours[i]++
	}
}

// plainCount returns the number of lists of k colours that are allowed, by looking at all of them.
func plainCount(x impl.System, k int64, allows func(int) bool) int64 {
	n := int64(0)
	plainLists(x.Points, k, func(colours []int64) bool {
		if plainKeeps(x, colours, allows) {
			n++
		}
		return true
	})
	return n
}

// plainFirst returns the least list of k colours that is allowed, and has at least some number of
// different ones, by looking at all lists.
func plainFirst(x impl.System, k int64, allows func(int) bool, least int64) []int64 {
	var first []int64
	plainLists(x.Points, k, func(colours []int64) bool {
		if int64(countDifferent(colours...)) >= least && plainKeeps(x, colours, allows) {
			first = colours
		}
		return first == nil
	})
	return first
}

// cutFirst returns the same for more points: it goes on from no beginning that breaks a block, and from
// none that has a colour before a lesser one, as the same with the colours exchanged comes before it.
func cutFirst(x impl.System, k int64, allows func(int) bool, least int64) []int64 {
	var first []int64
	var place func(begin []int64) bool
	place = func(begin []int64) bool {
		begins := impl.System{Points: x.Points}
		for _, b := range x.Blocks {
			if b[2] == int64(len(begin))-1 {
				begins.Blocks = append(begins.Blocks, b)
			}
		}
		different := int64(countDifferent(begin...))
		if !plainKeeps(begins, begin, allows) || different+x.Points-int64(len(begin)) < least {
			return false
		}
		if int64(len(begin)) == x.Points {
			first = begin
			return true
		}
		for c := range min(k, different+1) {
			if place(append(slices.Clone(begin), c)) {
				return true
			}
		}
		return false
	}
	place(nil)
	return first
}

// fanoAnd returns fano on the first seven of v points.
func fanoAnd(t *testing.T, v int64) impl.System {
	t.Helper()
	return onMore(named(t, "fano"), v)
}

// changedSystems returns full systems with some blocks taken out, and then others put in.
func changedSystems(t *testing.T) []impl.System {
	t.Helper()
	random := randomNumbers(71)
	var list []impl.System
	for _, name := range []string{"single", "fano", "affine", "cyclic13", "projective15"} {
		x := named(t, name)
		n := len(x.Blocks)
		for _, size := range []int{1, 2, 3, n / 4, n / 2} {
			y := impl.System{Points: x.Points}
			for _, i := range random.order(n)[min(size, n):] {
				y.Blocks = append(y.Blocks, x.Blocks[i])
			}
			slices.SortFunc(y.Blocks, compareBlocks)
			list = append(list, y)
			z := impl.System{Points: x.Points, Blocks: slices.Clone(y.Blocks)}
			all := triples(x.Points)
			for _, i := range random.order(len(all)) {
				if fitsIn(z, all[i]) {
					z.Blocks = append(z.Blocks, all[i])
				}
			}
			slices.SortFunc(z.Blocks, compareBlocks)
			list = append(list, z)
		}
	}
	return list
}

// partSystems returns systems of all kinds that parts and colourings are looked for in: full ones,
// renumbered ones, changed ones, such with small full systems in them, and such without blocks.
func partSystems(t *testing.T) []impl.System {
	t.Helper()
	list := slices.Concat(partials(), changedSystems(t), kindsOfFulls(t))
	list = append(list, fanoAnd(t, 8), fanoAnd(t, 15), onMore(named(t, "affine"), 14), onMore(named(t, "single"), 15))
	list = append(list, system(t, "14:abd,acg,aef,bce,bfg,cdf,deg,hik,hjn,hlm,ijl,imn,jkm,kln"))
	list = append(list, system(t, "9:abc,def,ghi"), system(t, "15:abc,def,ghi,jkl,mno"))
	for v := int64(3); v <= impl.MaxPoints; v++ {
		list = append(list, impl.System{Points: v})
	}
	random := randomNumbers(72)
	for _, x := range slices.Concat(changedSystems(t), kindsOfFulls(t)[:8]) {
		list = append(list, renumbered(x, random.order(int(x.Points))))
	}
	return list
}

// setsToTry returns sets of points of a system: the empty one, single points, pairs, blocks, blocks with
// a point more, all points, all but one, and any other ones; all sets if there are few.
func setsToTry(x impl.System, random *randomNumbers) [][]int64 {
	if x.Points <= 6 {
		return subsetsOf(x.Points)
	}
	all := identity(x.Points)
	sets := [][]int64{all}
	for _, set := range subsetsOf(x.Points) {
		if len(set) > 2 {
			break
		}
		sets = append(sets, set)
	}
	for _, b := range x.Blocks {
		more := append(slices.Clone(b[:]), int64(random.below(int(x.Points))))
		slices.Sort(more)
		sets = append(sets, b[:], slices.Compact(more))
	}
	for i := range all {
		sets = append(sets, slices.Delete(slices.Clone(all), i, i+1))
	}
	for range 30 {
		set := random.order(int(x.Points))[:3+random.below(int(x.Points)-3)]
		slices.Sort(set)
		sets = append(sets, set)
	}
	return sets
}

// noColours returns lists that are no list of k colours for v points.
func noColours(v, k int64) [][]int64 {
	good := make([]int64, v)
	for i := range good {
		good[i] = int64(i) % k
	}
	lists := [][]int64{nil, {}, {0}, good[1:], good[:v-1], append(slices.Clone(good), 0), make([]int64, v+1), slices.Concat(good, good), make([]int64, 1000)}
	for i := range good {
		for _, bad := range outside(k) {
			list := slices.Clone(good)
			list[i] = bad
			lists = append(lists, list)
		}
	}
	return lists
}

// noNumbersOfColours are out of 1..most.
func noNumbersOfColours(most int64) []int64 {
	return []int64{0, -1, most + 1, most + 2, -most, 100, 1 << 32, 1<<32 + 2, mostInt, leastInt}
}

// wantSetFacts checks what is said of a set of points, and that the arguments stay.
func wantSetFacts(t *testing.T, what string, plain impl.System, set []int64, closed, independent bool, span []int64, wantCode int64) {
	t.Helper()
	x, guardX := guardSystem(plain)
	points := guard(set, -7)
	yes, code := impl.IsClosed(x, points.list)
	wantSaid(t, "IsClosed", what, plain, set, yes, code, closed, wantCode)
	yes, code = impl.IsIndependent(x, points.list)
	wantSaid(t, "IsIndependent", what, plain, set, yes, code, independent, wantCode)
	list, code := impl.SpanOf(x, points.list)
	if code != wantCode || !slices.Equal(list, span) {
		t.Errorf("SpanOf(%v, %v), %s = %v, %d; want %v, %d", plain, set, what, list, code, span, wantCode)
	}
	spoil(list, -9)
	guardX.check(t, "a set, "+what)
	points.check(t, "a set, "+what)
}

func wantSaid(t *testing.T, name, what string, x impl.System, list []int64, yes bool, code int64, want bool, wantCode int64) {
	t.Helper()
	if yes != want || code != wantCode {
		t.Errorf("%s(%v, %v), %s = %v, %d; want %v, %d", name, x, list, what, yes, code, want, wantCode)
	}
}

// wantColours checks what is said of a list of colours, and that the arguments stay.
func wantColours(t *testing.T, what string, plain impl.System, k int64, colours []int64, colouring, strict bool, wantCode int64) {
	t.Helper()
	x, guardX := guardSystem(plain)
	list := guard(colours, -7)
	yes, code := impl.IsColouring(x, k, list.list)
	wantSaid(t, "IsColouring", what, plain, colours, yes, code, colouring, wantCode)
	yes, code = impl.IsStrict(x, k, list.list)
	wantSaid(t, "IsStrict", what, plain, colours, yes, code, strict, wantCode)
	guardX.check(t, "colours, "+what)
	list.check(t, "colours, "+what)
}

// wantFirstColours checks the first colouring and the first strict one, which there are not if they are
// nil, and that the system stays.
func wantFirstColours(t *testing.T, what string, plain impl.System, k int64, colouring, strict []int64) {
	t.Helper()
	x, guardX := guardSystem(plain)
	list, code := impl.FirstColouring(x, k)
	wantList(t, "FirstColouring of "+what, list, code, colouring, codeFor(colouring))
	spoil(list, -9)
	list, code = impl.FirstStrict(x, k)
	wantList(t, "FirstStrict of "+what, list, code, strict, codeFor(strict))
	spoil(list, -9)
	guardX.check(t, "first colours of "+what)
}

// codeFor returns the code beside a list that is sought.
func codeFor(list []int64) int64 {
	if list == nil {
		return impl.ErrNotFound
	}
	return impl.ErrNone
}
