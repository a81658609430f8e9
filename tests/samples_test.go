package tests

import (
	"maps"
	"slices"
	"testing"

	"loop.example/g01355/impl"
)

const (
	mostInt  = int64(1<<63 - 1)
	leastInt = -mostInt - 1
)

// namedTexts returns the texts of the systems with names, worked out apart from the program.
func namedTexts() map[string]string {
	return map[string]string{
		"single":       "3:abc",
		"fano":         "7:abd,acg,aef,bce,bfg,cdf,deg",
		"affine":       "9:abc,adg,aei,afh,bdi,beh,bfg,cdh,ceg,cfi,def,ghi",
		"cyclic13":     "13:abe,ach,adm,afl,agi,ajk,bcf,bdi,bgm,bhj,bkl,cdg,cej,cik,clm,deh,dfk,djl,efi,egl,ekm,fgj,fhm,ghk,hil,ijm",
		"cyclic15":     "15:abe,aci,ado,afk,agn,ahj,alm,bcf,bdj,bgl,bho,bik,bmn,cdg,cek,chm,cjl,cno,deh,dfl,din,dkm,efi,egm,ejo,eln,fgj,fhn,fmo,ghk,gio,hil,ijm,jkn,klo",
		"projective15": "15:abc,ade,afg,ahi,ajk,alm,ano,bdf,beg,bhj,bik,bln,bmo,cdg,cef,chk,cij,clo,cmn,dhl,dim,djn,dko,ehm,eil,ejo,ekn,fhn,fio,fjl,fkm,gho,gin,gjm,gkl",
	}
}

// named returns the system with a name, read from the text of the table above.
func named(t *testing.T, name string) impl.System {
	t.Helper()
	return system(t, namedTexts()[name])
}

// system reads a text letter by letter, without the program's own parser and checks.
func system(t *testing.T, text string) impl.System {
	t.Helper()
	x := impl.System{}
	i := 0
	for ; i < len(text) && text[i] != ':'; i++ {
		x.Points = 10*x.Points + int64(text[i]-'0')
	}
	for i++; i+2 < len(text); i += 4 {
		x.Blocks = append(x.Blocks, impl.Block{int64(text[i]) - 'a', int64(text[i+1]) - 'a', int64(text[i+2]) - 'a'})
	}
	return x
}

// randomNumbers is a fixed sequence of numbers, the same in each run.
type randomNumbers uint64

func (r *randomNumbers) below(n int) int {
	*r = *r*6364136223846793005 + 1442695040888963407
	return int(uint64(*r) >> 33 % uint64(n))
}

func (r *randomNumbers) order(n int) []int64 {
	list := make([]int64, n)
	for i := range list {
		list[i] = int64(i)
	}
	for i := n - 1; i > 0; i-- {
		j := r.below(i + 1)
		list[i], list[j] = list[j], list[i]
	}
	return list
}

// triples returns all blocks of v points, ascending.
func triples(v int64) []impl.Block {
	var list []impl.Block
	for a := int64(0); a < v; a++ {
		for b := a + 1; b < v; b++ {
			for c := b + 1; c < v; c++ {
				list = append(list, impl.Block{a, b, c})
			}
		}
	}
	return list
}

func has(b impl.Block, a int64) bool {
	return b[0] == a || b[1] == a || b[2] == a
}

// blockOf returns the number of the block with two points, or -1, by looking at all blocks.
func blockOf(x impl.System, a int64, b int64) int {
	for i, block := range x.Blocks {
		if has(block, a) && has(block, b) {
			return i
		}
	}
	return -1
}

// fitsIn reports whether all pairs of b are left in x.
func fitsIn(x impl.System, b impl.Block) bool {
	return blockOf(x, b[0], b[1]) < 0 && blockOf(x, b[0], b[2]) < 0 && blockOf(x, b[1], b[2]) < 0
}

// partials returns partial systems of all numbers of points, from empty ones to stuck ones.
func partials() []impl.System {
	var list []impl.System
	random := randomNumbers(1)
	for v := int64(3); v <= impl.MaxPoints; v++ {
		blocks := triples(v)
		for size := 0; size <= 35; size += 1 + size/2 {
			x := impl.System{Points: v}
			for _, i := range random.order(len(blocks)) {
				if len(x.Blocks) < size && fitsIn(x, blocks[i]) {
					x.Blocks = append(x.Blocks, blocks[i])
				}
			}
			slices.SortFunc(x.Blocks, func(a, b impl.Block) int { return slices.Compare(a[:], b[:]) })
			list = append(list, x)
		}
	}
	return list
}

// samples returns the named systems and the partial ones, in the same order in each run.
func samples(t *testing.T) []impl.System {
	t.Helper()
	list := partials()
	for _, name := range slices.Sorted(maps.Keys(namedTexts())) {
		list = append(list, named(t, name))
	}
	return list
}

// invalidSystems returns what is no system, with the reasons.
func invalidSystems() map[string]impl.System {
	of := func(v int64, blocks ...impl.Block) impl.System { return impl.System{Points: v, Blocks: blocks} }
	repeated := of(15)
	for range 1000 {
		repeated.Blocks = append(repeated.Blocks, impl.Block{0, 1, 2})
	}
	return map[string]impl.System{
		"zero value":             {},
		"two points":             of(2),
		"sixteen points":         of(16),
		"negative points":        of(-7),
		"most points":            of(mostInt),
		"least points":           of(leastInt),
		"two points and a block": of(2, impl.Block{0, 1, 2}),
		"sixteen and a block":    of(16, impl.Block{0, 1, 2}),
		"point too great":        of(7, impl.Block{0, 1, 7}),
		"point 15":               of(15, impl.Block{0, 1, 15}),
		"point far too great":    of(7, impl.Block{0, 1, mostInt}),
		"negative point":         of(7, impl.Block{-1, 0, 1}),
		"least point":            of(7, impl.Block{leastInt, 0, 1}),
		"first points equal":     of(7, impl.Block{1, 1, 2}),
		"last points equal":      of(7, impl.Block{1, 2, 2}),
		"all points equal":       of(7, impl.Block{0, 0, 0}),
		"first points descend":   of(7, impl.Block{1, 0, 2}),
		"last points descend":    of(7, impl.Block{0, 2, 1}),
		"blocks descend":         of(7, impl.Block{3, 4, 5}, impl.Block{0, 1, 2}),
		"later blocks descend":   of(9, impl.Block{0, 1, 2}, impl.Block{6, 7, 8}, impl.Block{3, 4, 5}),
		"descend at the second":  of(7, impl.Block{0, 3, 4}, impl.Block{0, 1, 2}),
		"a block twice":          of(7, impl.Block{0, 1, 2}, impl.Block{0, 1, 2}),
		"pair 0 1 in two":        of(7, impl.Block{0, 1, 2}, impl.Block{0, 1, 3}),
		"pair 0 2 in two":        of(7, impl.Block{0, 1, 2}, impl.Block{0, 2, 3}),
		"pair 1 2 in two":        of(7, impl.Block{0, 1, 2}, impl.Block{1, 2, 3}),
		"outer pair in two":      of(7, impl.Block{0, 1, 4}, impl.Block{0, 2, 4}),
		"last pair in two":       of(7, impl.Block{0, 3, 4}, impl.Block{1, 3, 4}),
		"pair in the last two":   of(9, impl.Block{0, 1, 2}, impl.Block{3, 4, 5}, impl.Block{4, 5, 6}),
		"last block is bad":      of(9, impl.Block{0, 1, 2}, impl.Block{3, 4, 5}, impl.Block{6, 7, 9}),
		"all triples":            of(15, triples(15)...),
		"a thousand blocks":      repeated,
	}
}
