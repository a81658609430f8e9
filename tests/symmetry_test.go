package tests

import (
	"maps"
	"slices"
	"testing"

	"loop.example/g01355/impl"
)

// blockTable has, for each three points in any order, whether they are a block.
type blockTable [impl.MaxPoints][impl.MaxPoints][impl.MaxPoints]bool

func tableOf(x impl.System) *blockTable {
	var table blockTable
	for _, b := range x.Blocks {
		for i := range b {
			for k := range b {
				if i != k {
					table[b[i]][b[k]][b[3-i-k]] = true
				}
			}
		}
	}
	return &table
}

// agree reports whether the last point and two others are a block just if their images are one.
func agree(from, to *blockTable, images []int64) bool {
	last := len(images) - 1
	for b := range images[:last] {
		for a := range images[:b] {
			if from[a][b][last] != to[images[a]][images[b]][images[last]] {
				return false
			}
		}
	}
	return true
}

// plainRenumberings returns all renumberings that lead x to y, in order: one point after the other
// gets each image that no other one has.
func plainRenumberings(x, y impl.System) [][]int64 {
	if x.Points != y.Points {
		return nil
	}
	from, to := tableOf(x), tableOf(y)
	var list [][]int64
	var place func(images []int64)
	place = func(images []int64) {
		if int64(len(images)) == x.Points {
			list = append(list, slices.Clone(images))
			return
		}
		for q := range x.Points {
			if more := append(images, q); !slices.Contains(images, q) && agree(from, to, more) {
				place(more)
			}
		}
	}
	place(make([]int64, 0, x.Points))
	return list
}

// plainOrbits returns for n numbers the sets of images under all of some maps, in order.
func plainOrbits(n int64, all [][]int64) [][]int64 {
	var orbits [][]int64
	for i := range n {
		var orbit []int64
		for _, images := range all {
			orbit = append(orbit, images[i])
		}
		slices.Sort(orbit)
		orbits = append(orbits, slices.Compact(orbit))
	}
	return inOrder(orbits)
}

// plainBlockMaps returns for each renumbering the numbers of the images of the blocks.
func plainBlockMaps(x impl.System, all [][]int64) [][]int64 {
	var maps [][]int64
	for _, p := range all {
		var images []int64
		for _, b := range x.Blocks {
			images = append(images, int64(blockOf(x, p[b[0]], p[b[1]])))
		}
		maps = append(maps, images)
	}
	return maps
}

// plainKept returns for each k how many of the renumberings keep just k points.
func plainKept(v int64, all [][]int64) []int64 {
	counts := make([]int64, v+1)
	for _, p := range all {
		kept := 0
		for a, b := range p {
			if int64(a) == b {
				kept++
			}
		}
		counts[kept]++
	}
	return counts
}

// plainIsAround follows a point and notes where it gets to.
func plainIsAround(p []int64) bool {
	seen := map[int64]bool{}
	for a := int64(0); !seen[a]; a = p[a] {
		seen[a] = true
	}
	return len(seen) == len(p)
}

// plainAround returns the first one that goes around, and the code beside it.
func plainAround(all [][]int64) ([]int64, int64) {
	for _, p := range all {
		if plainIsAround(p) {
			return p, impl.ErrNone
		}
	}
	return nil, impl.ErrNotFound
}

func identity(v int64) []int64 {
	var p []int64
	for a := range v {
		p = append(p, a)
	}
	return p
}

func inverseOf(p []int64) []int64 {
	back := make([]int64, len(p))
	for a, b := range p {
		back[b] = int64(a)
	}
	return back
}

// fifteenTexts returns systems of 15 points, by their numbers of automorphisms: no two of them are
// isomorphic.
func fifteenTexts() map[int64]string {
	return map[int64]string{
		1:     "15:abe,acd,afh,agi,ajn,ako,alm,bcf,bdg,bhj,bik,bln,bmo,ceg,chk,cij,clo,cmn,def,dhl,dim,djk,dno,ehm,eil,ejo,ekn,fgn,fio,fjl,fkm,gho,gjm,gkl,hin",
		2:     "15:abd,ace,afh,agi,ajk,alm,ano,bcf,bej,bgh,bik,bln,bmo,cdg,chk,cij,clo,cmn,def,dhl,dim,djn,dko,ego,ehm,eil,ekn,fgn,fio,fjl,fkm,gjm,gkl,hin,hjo",
		3:     "15:abd,ace,afh,agi,ajn,ako,alm,bcf,beg,bhj,bik,bln,bmo,cdg,chk,cij,clo,cmn,def,dhl,dim,djk,dno,ehm,eil,ejo,ekn,fgn,fio,fjl,fkm,gho,gjm,gkl,hin",
		4:     "15:abe,acd,afg,ahj,aik,alm,ano,bcf,bdg,bhi,bjk,bln,bmo,ceg,chk,cij,clo,cmn,def,dhl,dim,djn,dko,ehm,eil,ejo,ekn,fhn,fio,fjl,fkm,gho,gin,gjm,gkl",
		5:     "15:abd,ace,afh,agi,ajn,ako,alm,bcf,ben,bgl,bhj,bio,bkm,cdg,chk,cij,clo,cmn,def,dhl,dim,djk,dno,egk,ehm,eil,ejo,fgn,fik,fjl,fmo,gho,gjm,hin,kln",
		6:     "15:abd,ace,afh,agi,ajm,akl,ano,bcf,bej,bgh,bik,bln,bmo,cdg,chk,cij,clo,cmn,def,dhl,din,djo,dkm,ego,ehm,eil,ekn,fgn,fim,fjl,fko,gjk,glm,hio,hjn",
		8:     "15:abd,ace,afh,agi,ajk,alm,ano,bcf,beg,bhj,bik,bln,bmo,cdg,chk,cij,clo,cmn,def,dhl,dim,djn,dko,ehm,eil,ejo,ekn,fgn,fio,fjl,fkm,gho,gjm,gkl,hin",
		12:    "15:abe,acd,afh,agi,ajk,alm,ano,bcf,bdg,bhj,bik,bln,bmo,ceg,chk,cij,clo,cmn,def,dhl,dim,djn,dko,ehm,eil,ejo,ekn,fgn,fio,fjl,fkm,gho,gjm,gkl,hin",
		21:    "15:abd,ace,afh,agi,ajn,ako,alm,bcf,bej,bgh,bio,bkm,bln,cdi,cgj,chm,ckn,clo,def,dgm,dhl,djk,dno,ego,ehk,eil,emn,fgn,fik,fjl,fmo,gkl,hin,hjo,ijm",
		24:    "15:abd,ace,afh,agi,ajk,alm,ano,bcf,beo,bgm,bhj,bik,bln,cdg,chk,cij,clo,cmn,def,dhl,dim,djn,dko,egj,ehm,eil,ekn,fgn,fio,fjl,fkm,gho,gkl,hin,jmo",
		32:    "15:abd,ace,afg,aho,ain,ajk,alm,bcf,beg,bhj,bik,bln,bmo,cdg,chk,cij,clo,cmn,def,dhl,dim,djn,dko,ehm,eil,ejo,ekn,fhn,fio,fjl,fkm,ghi,gjm,gkl,gno",
		36:    "15:abm,ace,adj,afh,agi,akl,ano,bcf,bdo,bej,bgh,bik,bln,cdg,chk,cij,clo,cmn,def,dhl,din,dkm,ego,ehm,eil,ekn,fgn,fim,fjl,fko,gjk,glm,hio,hjn,jmo",
		60:    "15:abi,acg,adj,aeh,afk,alo,amn,bcj,bdh,bef,bgl,bkm,bno,cdf,cei,chm,cko,cln,deg,din,dkl,dmo,ejo,ekn,elm,fgn,fhl,fio,fjm,gho,gim,gjk,hik,hjn,ijl",
		96:    "15:abe,acd,afg,ahi,ajk,alm,ano,bcf,bdg,bhj,bik,bln,bmo,ceg,chk,cij,clo,cmn,def,dhl,dim,djn,dko,ehm,eil,ejo,ekn,fhn,fio,fjl,fkm,gho,gin,gjm,gkl",
		168:   "15:abf,acd,aeg,ahi,ajk,alm,ano,bce,bdg,bhj,bik,bln,bmo,cfg,chk,cij,clo,cmn,def,dhl,dim,djn,dko,ehm,eil,ejo,ekn,fhn,fio,fjl,fkm,gho,gin,gjm,gkl",
		192:   "15:abd,ace,afg,ahi,ajk,alm,ano,bcf,beg,bhj,bik,bln,bmo,cdg,chk,cij,clo,cmn,def,dhl,dim,djn,dko,ehm,eil,ejo,ekn,fhn,fio,fjl,fkm,gho,gin,gjm,gkl",
		288:   "15:abd,ace,afg,aho,ain,ajk,alm,bcf,beg,bhj,bik,bln,bmo,cdg,chk,cij,clo,cmn,def,dhl,dim,djn,dko,ehm,eil,ejo,ekn,fhn,fio,fjm,fkl,ghi,gjl,gkm,gno",
		20160: namedTexts()["projective15"],
	}
}

// thirteen is a system of 13 points that is not isomorphic to cyclic13.
func thirteen(t *testing.T) impl.System {
	t.Helper()
	x := named(t, "cyclic13")
	return exchanged(x, plainPasch(x)[0])
}

// kindsOfFulls returns full systems no two of which are isomorphic.
func kindsOfFulls(t *testing.T) []impl.System {
	t.Helper()
	list := []impl.System{named(t, "single"), named(t, "fano"), named(t, "affine"), named(t, "cyclic13"), thirteen(t)}
	for _, n := range slices.Sorted(maps.Keys(fifteenTexts())) {
		list = append(list, system(t, fifteenTexts()[n]))
	}
	return list
}

// symmetric is a full system with its automorphisms, in order.
type symmetric struct {
	x   impl.System
	all [][]int64
}

// symmetricSystems returns full systems of all kinds, as they are and renumbered.
func symmetricSystems(t *testing.T) []symmetric {
	t.Helper()
	random := randomNumbers(61)
	var list []symmetric
	for _, x := range append(kindsOfFulls(t), named(t, "cyclic15")) {
		y := renumbered(x, random.order(int(x.Points)))
		list = append(list, symmetric{x, plainRenumberings(x, x)}, symmetric{y, plainRenumberings(y, y)})
	}
	return list
}

// noRenumberings returns lists that are no renumbering of v points.
func noRenumberings(v int64) [][]int64 {
	p := identity(v)
	lists := [][]int64{nil, {}, {0}, p[1:], p[:v-1], identity(v + 1), slices.Concat(p, []int64{0}), slices.Concat(p, p), make([]int64, v), make([]int64, 1000)}
	for i := range p {
		for _, bad := range append(outside(v), p[(i+1)%len(p)]) {
			list := slices.Clone(p)
			list[i] = bad
			lists = append(lists, list)
		}
	}
	return lists
}

// wantLeads checks what LeadsTo says, and that its arguments stay.
func wantLeads(t *testing.T, what string, plainX, plainY impl.System, list []int64, want bool, wantCode int64) {
	t.Helper()
	x, guardX := guardSystem(plainX)
	y, guardY := guardSystem(plainY)
	p := guard(list, -7)
	yes, code := impl.LeadsTo(x, y, p.list)
	if yes != want || code != wantCode {
		t.Errorf("LeadsTo(%v, %v, %v), %s = %v, %d; want %v, %d", plainX, plainY, list, what, yes, code, want, wantCode)
	}
	guardX.check(t, "LeadsTo, "+what)
	guardY.check(t, "LeadsTo, "+what)
	p.check(t, "LeadsTo, "+what)
}

// wantFound checks what FindRenumbering and AreIsomorphic say of two systems, and that these stay. For
// full systems, the code is ErrNone or ErrNotFound; others have another one.
func wantFound(t *testing.T, what string, plainX, plainY impl.System, want []int64, wantCode int64) {
	t.Helper()
	x, guardX := guardSystem(plainX)
	y, guardY := guardSystem(plainY)
	list, code := impl.FindRenumbering(x, y)
	wantList(t, "FindRenumbering, "+what, list, code, want, wantCode)
	spoil(list, -9)
	same, code := impl.AreIsomorphic(x, y)
	if wantCode == impl.ErrNotFound {
		wantCode = impl.ErrNone
	}
	wantValue(t, "AreIsomorphic, "+what, same, code, want != nil, wantCode)
	guardX.check(t, "FindRenumbering, "+what)
	guardY.check(t, "FindRenumbering, "+what)
}

// wantNoSymmetry checks what the functions of one system return beside an error.
func wantNoSymmetry(t *testing.T, what string, plain impl.System, wantCode int64) {
	t.Helper()
	x, guard := guardSystem(plain)
	n, code := impl.CountAutomorphisms(x)
	wantValue(t, "CountAutomorphisms of "+what, n, code, 0, wantCode)
	rows, code := impl.AutomorphismsOf(x)
	wantRows(t, "AutomorphismsOf of "+what, rows, code, nil, wantCode)
	rows, code = impl.PointOrbits(x)
	wantRows(t, "PointOrbits of "+what, rows, code, nil, wantCode)
	rows, code = impl.BlockOrbits(x)
	wantRows(t, "BlockOrbits of "+what, rows, code, nil, wantCode)
	list, code := impl.KeptNumbers(x)
	wantList(t, "KeptNumbers of "+what, list, code, nil, wantCode)
	list, code = impl.GoesAround(x)
	wantList(t, "GoesAround of "+what, list, code, nil, wantCode)
	guard.check(t, "the symmetry of "+what)
}

// wantNoStabiliser checks what StabiliserNumber returns beside an error.
func wantNoStabiliser(t *testing.T, what string, plain impl.System, p int64, wantCode int64) {
	t.Helper()
	x, guard := guardSystem(plain)
	n, code := impl.StabiliserNumber(x, p)
	wantValue(t, "StabiliserNumber of "+what, n, code, 0, wantCode)
	guard.check(t, "StabiliserNumber of "+what)
}
