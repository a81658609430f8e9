package tests

import (
	"slices"
	"testing"

	"loop.example/g01355/impl"
)

// plainTimes returns for each point in how many blocks of a set it is.
func plainTimes(x impl.System, set []int64) [impl.MaxPoints]int {
	var times [impl.MaxPoints]int
	for _, i := range set {
		for _, a := range x.Blocks[i] {
			times[a]++
		}
	}
	return times
}

// plainIsDisjoint reports whether no point is in two blocks of a set.
func plainIsDisjoint(x impl.System, set []int64) bool {
	times := plainTimes(x, set)
	return slices.Max(times[:]) <= 1
}

// plainPointsLeft returns the number of points that are in no block of a set.
func plainPointsLeft(x impl.System, set []int64) int64 {
	left := int64(0)
	times := plainTimes(x, set)
	for a := range x.Points {
		if times[a] == 0 {
			left++
		}
	}
	return left
}

// plainDisjoint returns all sets of k disjoint blocks for each k, in order: of the sets of k - 1, each
// with each block behind its last one, those that have no point twice.
func plainDisjoint(x impl.System) [][][]int64 {
	levels := [][][]int64{{{}}}
	for k := 1; k <= 6; k++ {
		var sets [][]int64
		for _, set := range levels[k-1] {
			for i := range int64(len(x.Blocks)) {
				more := append(slices.Clone(set), i)
				if (len(set) == 0 || set[len(set)-1] < i) && plainIsDisjoint(x, more) {
					sets = append(sets, more)
				}
			}
		}
		levels = append(levels, inOrder(sets))
	}
	return levels
}

// plainClasses returns the sets of disjoint blocks that leave out just some number of points.
func plainClasses(x impl.System, left int64) [][]int64 {
	var list [][]int64
	for _, sets := range plainDisjoint(x) {
		for _, set := range sets {
			if plainPointsLeft(x, set) == left {
				list = append(list, set)
			}
		}
	}
	return inOrder(list)
}

// plainMost returns the first one of the greatest sets.
func plainMost(x impl.System) []int64 {
	var most []int64
	for _, sets := range plainDisjoint(x) {
		if len(sets) > 0 {
			most = sets[0]
		}
	}
	return most
}

// plainResolutions takes ascending classes without a block in common, until they have all blocks.
func plainResolutions(x impl.System) [][][]int64 {
	classes := plainClasses(x, 0)
	var list [][][]int64
	var take func(from int, taken [][]int64, blocks uint64)
	take = func(from int, taken [][]int64, blocks uint64) {
		if blocks == 1<<len(x.Blocks)-1 {
			list = append(list, taken)
			return
		}
		for k := from; k < len(classes); k++ {
			var class uint64
			for _, i := range classes[k] {
				class |= 1 << i
			}
			if blocks&class == 0 {
				take(k+1, slices.Concat(taken, classes[k:k+1]), blocks|class)
			}
		}
	}
	take(0, nil, 0)
	return list
}

// plainIsResolution counts how often each block is in the classes.
func plainIsResolution(x impl.System, classes [][]int64) bool {
	times := make([]int, len(x.Blocks))
	for k, class := range classes {
		if !plainIsDisjoint(x, class) || plainPointsLeft(x, class) > 0 || k > 0 && slices.Compare(classes[k-1], class) >= 0 {
			return false
		}
		for _, i := range class {
			times[i]++
		}
	}
	isNotOnce := func(n int) bool { return n != 1 }
	return !slices.ContainsFunc(times, isNotOnce)
}

// greedyResolution takes the first class of blocks that are left, as long as there is one.
func greedyResolution(x impl.System) [][]int64 {
	var taken [][]int64
	used := map[int64]bool{}
	for _, class := range plainClasses(x, 0) {
		if !slices.ContainsFunc(class, func(i int64) bool { return used[i] }) {
			taken = append(taken, class)
			for _, i := range class {
				used[i] = true
			}
		}
	}
	return taken
}

// squareSystem returns the partial system of a square of n: its blocks have a row, a column and a
// number of it, so that its classes have each row, each column and each number once.
func squareSystem(rows [][]int64) impl.System {
	n := int64(len(rows))
	x := impl.System{Points: 3 * n}
	for i, row := range rows {
		for k, z := range row {
			x.Blocks = append(x.Blocks, impl.Block{int64(i), n + int64(k), 2*n + z})
		}
	}
	return x
}

// kleinSquare has the numbers x xor y.
func kleinSquare() [][]int64 {
	return [][]int64{{0, 1, 2, 3}, {1, 0, 3, 2}, {2, 3, 0, 1}, {3, 2, 1, 0}}
}

// onlyBlocks returns x with the blocks of some ascending numbers only.
func onlyBlocks(x impl.System, numbers []int64) impl.System {
	y := impl.System{Points: x.Points}
	for _, i := range numbers {
		y.Blocks = append(y.Blocks, x.Blocks[i])
	}
	return y
}

// onMore returns x with more points, the blocks being as they were.
func onMore(x impl.System, v int64) impl.System {
	return impl.System{Points: v, Blocks: x.Blocks}
}

// squareSystems returns the systems of squares of 2 to 5, some with more points or fewer blocks.
func squareSystems() []impl.System {
	list := []impl.System{
		squareSystem(kleinSquare()),
		onMore(squareSystem(kleinSquare()), 13),
		onMore(squareSystem(kleinSquare()), 14),
	}
	for n := int64(2); n <= 5; n++ {
		for k := int64(1); k < n; k++ {
			if n != 4 || k != 2 {
				x := squareSystem(ruledSquare(n, 1, k, k%2))
				list = append(list, x, onlyBlocks(x, []int64{0, int64(len(x.Blocks)) - 1}))
			}
		}
	}
	list = append(list, onMore(squareSystem(ruledSquare(3, 1, 1, 0)), 10), onMore(squareSystem(ruledSquare(3, 1, 1, 0)), 11))
	return list
}

// unions returns systems that have just the blocks of some classes of others, disjoint ones or not.
func unions(t *testing.T) []impl.System {
	t.Helper()
	var list []impl.System
	random := randomNumbers(51)
	for _, x := range []impl.System{named(t, "affine"), named(t, "projective15"), squareSystem(kleinSquare())} {
		classes := plainClasses(x, 0)
		for size := 1; size <= 4; size++ {
			var numbers []int64
			for _, k := range random.order(len(classes))[:size] {
				numbers = append(numbers, classes[k]...)
			}
			slices.Sort(numbers)
			list = append(list, onlyBlocks(x, slices.Compact(numbers)))
		}
	}
	for _, x := range []impl.System{named(t, "projective15"), squareSystem(ruledSquare(5, 1, 1, 0))} {
		resolution := plainResolutions(x)[1]
		for size := range resolution {
			numbers := slices.Concat(resolution[:size+1]...)
			slices.Sort(numbers)
			list = append(list, onlyBlocks(x, numbers))
		}
	}
	return list
}

// hiddenResolutions returns systems with one resolution, which is not found by taking the first class
// that fits, again and again: another class comes before, or between, its classes.
func hiddenResolutions(t *testing.T) []impl.System {
	t.Helper()
	return []impl.System{
		system(t, "12:abd,acj,afh,aik,bcl,beg,bij,cek,cfg,def,dgl,dhk,ehi,fil,ghj,jkl"),
		system(t, "15:abg,ack,ain,bdj,bhm,cdh,cgo,del,eim,ejn,fgh,fio,fjk,klm,lno"),
		system(t, "15:acd,aen,akm,alo,bcj,bei,bfn,bkl,cfg,cho,dfl,dgi,djm,egh,ejl,fij,gko,him,hkn,mno"),
		system(t, "15:abd,afn,ahm,akl,bcm,beo,bgk,cen,cfk,cil,dgm,djn,dlo,egi,ehl,fho,fij,gjo,hjk,imn"),
	}
}

// classSystems returns systems of all kinds that classes are looked for in: partial and full ones,
// with classes, with near classes and without, some of them renumbered.
func classSystems(t *testing.T) []impl.System {
	t.Helper()
	list := slices.Concat(notFull(t), squareSystems(), unions(t), hiddenResolutions(t))
	random := randomNumbers(52)
	for i, x := range fulls(t) {
		if x.Points < 15 || i%3 == 0 {
			list = append(list, x)
		}
	}
	for _, x := range slices.Concat(squareSystems(), unions(t), hiddenResolutions(t)) {
		list = append(list, renumbered(x, random.order(int(x.Points))))
	}
	return list
}

// noSets returns lists that are no set of the numbers of n blocks.
func noSets(n int64) [][]int64 {
	var list [][]int64
	for _, bad := range outside(n) {
		list = append(list, []int64{bad}, []int64{bad, bad})
		if n > 0 && bad < 0 {
			list = append(list, []int64{bad, 0})
		}
		if n > 0 && bad > 0 {
			list = append(list, []int64{n - 1, bad})
		}
	}
	for i := range n {
		list = append(list, []int64{i, i}, []int64{i, 0})
		for k := range i {
			list = append(list, []int64{i, k}, []int64{k, i, i}, []int64{k, k, i}, []int64{k, i, k})
		}
	}
	return append(list, make([]int64, 1000))
}

// wantResolution checks what IsResolution says of classes, and that its arguments stay.
func wantResolution(t *testing.T, what string, plain impl.System, classes [][]int64, want bool, wantCode int64) {
	t.Helper()
	x, guard := guardSystem(plain)
	rows := guardRows(classes)
	yes, code := impl.IsResolution(x, rows.list)
	if yes != want || code != wantCode {
		t.Errorf("IsResolution(%v, %v), %s = %v, %d; want %v, %d", x, classes, what, yes, code, want, wantCode)
	}
	guard.check(t, "IsResolution, "+what)
	rows.check(t, "IsResolution, "+what)
}
