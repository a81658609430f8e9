package impl

import (
	"iter"
	"slices"
	"strconv"
	"strings"
)

const (
	ErrNone = iota
	ErrInvalid
	ErrRange
	ErrLimit
	ErrNotFound
	ErrState
	ErrSyntax
)
const MaxPoints = 15

const leastPoints = 3

// mostBlocks is the number of blocks of a full system of MaxPoints points: no system has more.
const mostBlocks = 35

type Block [3]int64

type System struct {
	Points int64
	Blocks []Block
}

// pair has the lesser point first, so that the same two points are always the same map key.
type pair [2]int64

// pairsOf expects the points of b in ascending order.
func pairsOf(b Block) [3]pair {
	return [3]pair{{b[0], b[1]}, {b[0], b[2]}, {b[1], b[2]}}
}

// pairsIn returns the set of the pairs that are in the blocks.
func pairsIn(blocks []Block) map[pair]bool {
	set := make(map[pair]bool, 3*len(blocks))
	for _, b := range blocks {
		for _, p := range pairsOf(b) {
			set[p] = true
		}
	}
	return set
}

// setOf returns the set of the blocks of a list.
func setOf(blocks []Block) map[Block]bool {
	set := make(map[Block]bool, len(blocks))
	for _, b := range blocks {
		set[b] = true
	}
	return set
}

// blocksIn returns the blocks of a list that are in a set.
func blocksIn(blocks []Block, set map[Block]bool) []Block {
	var list []Block
	for _, b := range blocks {
		if set[b] {
			list = append(list, b)
		}
	}
	return list
}

// isBlockFree reports whether no pair of b is taken.
func isBlockFree(taken map[pair]bool, b Block) bool {
	for _, p := range pairsOf(b) {
		if taken[p] {
			return false
		}
	}
	return true
}

// isSize reports whether a system may have v points.
func isSize(v int64) bool {
	return leastPoints <= v && v <= MaxPoints
}

func isPoint(v int64, a int64) bool {
	return 0 <= a && a < v
}

// areTwoPoints reports whether a and b are different points of v.
func areTwoPoints(v int64, a int64, b int64) bool {
	return isPoint(v, a) && isPoint(v, b) && a != b
}

// isBlock reports whether b has three different points of v in ascending order.
func isBlock(v int64, b Block) bool {
	return 0 <= b[0] && b[0] < b[1] && b[1] < b[2] && b[2] < v
}

// isNumberSet reports whether the numbers are an ascending list of different ones in 0..n - 1.
func isNumberSet(n int64, numbers []int64) bool {
	for i, a := range numbers {
		if a < 0 || a >= n || i > 0 && numbers[i-1] >= a {
			return false
		}
	}
	return true
}

func isBlockNumber(x System, i int64) bool {
	return 0 <= i && i < int64(len(x.Blocks))
}

// isRenumbering reports whether p has each of the numbers 0 to v - 1 once.
func isRenumbering(v int64, p []int64) bool {
	if int64(len(p)) != v {
		return false
	}
	seen := map[int64]bool{}
	for _, a := range p {
		if !isPoint(v, a) || seen[a] {
			return false
		}
		seen[a] = true
	}
	return true
}

// blockFrom returns the block of three points in any order. The array is a copy of the list, which
// is why sorting it leaves the list as it was.
func blockFrom(points []int64) Block {
	b := Block(points)
	slices.Sort(b[:])
	return b
}

func compareBlocks(a Block, b Block) int {
	return slices.Compare(a[:], b[:])
}

// systemFrom returns a system of blocks in any order. It keeps the list, which must be new memory.
func systemFrom(v int64, blocks []Block) System {
	slices.SortFunc(blocks, compareBlocks)
	return System{Points: v, Blocks: blocks}
}

// allBlocks gives all blocks of v points, ascending.
func allBlocks(v int64) iter.Seq[Block] {
	return func(yield func(Block) bool) {
		for a := range v {
			for b := a + 1; b < v; b++ {
				for c := b + 1; c < v; c++ {
					if !yield(Block{a, b, c}) {
						return
					}
				}
			}
		}
	}
}

// blocksWith gives the blocks with a point, each behind its number, ascending.
func blocksWith(x System, p int64) iter.Seq2[int64, Block] {
	return func(yield func(int64, Block) bool) {
		for i, b := range x.Blocks {
			if slices.Contains(b[:], p) && !yield(int64(i), b) {
				return
			}
		}
	}
}

// sharePair reports whether a pair is in two of the blocks.
func sharePair(blocks []Block) bool {
	taken := map[pair]bool{}
	for _, b := range blocks {
		if !isBlockFree(taken, b) {
			return true
		}
		for _, p := range pairsOf(b) {
			taken[p] = true
		}
	}
	return false
}

// IsSystem reports whether x is a system.
func IsSystem(x System) bool {
	if !isSize(x.Points) {
		return false
	}
	for i, b := range x.Blocks {
		if !isBlock(x.Points, b) || i > 0 && compareBlocks(x.Blocks[i-1], b) >= 0 {
			return false
		}
	}
	return !sharePair(x.Blocks)
}

// SystemOf returns the system with v points, in 3..MaxPoints, and with at most 35 blocks of three
// different points, in any order, and with their points in any order, and ErrNone. Errors: ErrState
// if a pair of points is in two of them.
func SystemOf(v int64, blocks []Block) (System, int64) {
	if !isSize(v) || len(blocks) > mostBlocks {
		return System{}, ErrRange
	}
	list := make([]Block, 0, len(blocks))
	for _, given := range blocks {
		b := blockFrom(given[:])
		if !isBlock(v, b) {
			return System{}, ErrRange
		}
		list = append(list, b)
	}
	if sharePair(list) {
		return System{}, ErrState
	}
	return systemFrom(v, list), ErrNone
}

// IsFull reports whether x is full, and returns ErrNone.
func IsFull(x System) (bool, int64) {
	if !IsSystem(x) {
		return false, ErrInvalid
	}
	// No pair is in two blocks, so counting the pairs is enough.
	pairs := x.Points * (x.Points - 1) / 2
	return 3*int64(len(x.Blocks)) == pairs, ErrNone
}

// ThirdPoint returns the third point of two different points, and ErrNone. Errors: ErrNotFound if
// the pair is left.
func ThirdPoint(x System, a int64, b int64) (int64, int64) {
	if !IsSystem(x) {
		return 0, ErrInvalid
	}
	if !areTwoPoints(x.Points, a, b) {
		return 0, ErrRange
	}
	for _, block := range blocksWith(x, a) {
		if slices.Contains(block[:], b) {
			return block[0] + block[1] + block[2] - a - b, ErrNone
		}
	}
	return 0, ErrNotFound
}

// BlocksAt returns the blocks with a point p, ascending, and ErrNone.
func BlocksAt(x System, p int64) ([]int64, int64) {
	if !IsSystem(x) {
		return nil, ErrInvalid
	}
	if !isPoint(x.Points, p) {
		return nil, ErrRange
	}
	var numbers []int64
	for i := range blocksWith(x, p) {
		numbers = append(numbers, i)
	}
	return numbers, ErrNone
}

// DegreesOf returns the degrees of all points, and ErrNone.
func DegreesOf(x System) ([]int64, int64) {
	if !IsSystem(x) {
		return nil, ErrInvalid
	}
	degrees := make([]int64, x.Points)
	for p := range x.Points {
		for range blocksWith(x, p) {
			degrees[p]++
		}
	}
	return degrees, ErrNone
}

// PairsLeft returns all pairs that are left, the lesser point first, in lexicographic order, and
// ErrNone.
func PairsLeft(x System) ([][]int64, int64) {
	if !IsSystem(x) {
		return nil, ErrInvalid
	}
	taken := pairsIn(x.Blocks)
	var left [][]int64
	for a := range x.Points {
		for b := a + 1; b < x.Points; b++ {
			if !taken[pair{a, b}] {
				left = append(left, []int64{a, b})
			}
		}
	}
	return left, ErrNone
}

// PutBlock returns x with a block more, of three different points in ascending order, and ErrNone.
// Errors: ErrRange if b is none; ErrState if a pair of b is not left.
func PutBlock(x System, b Block) (System, int64) {
	if !IsSystem(x) {
		return System{}, ErrInvalid
	}
	if !isBlock(x.Points, b) {
		return System{}, ErrRange
	}
	if !isBlockFree(pairsIn(x.Blocks), b) {
		return System{}, ErrState
	}
	return systemFrom(x.Points, slices.Concat(x.Blocks, []Block{b})), ErrNone
}

// TakeBlock returns x without the block i, and ErrNone.
func TakeBlock(x System, i int64) (System, int64) {
	if !IsSystem(x) {
		return System{}, ErrInvalid
	}
	if !isBlockNumber(x, i) {
		return System{}, ErrRange
	}
	var rest []Block
	for _, b := range x.Blocks {
		if b != x.Blocks[i] {
			rest = append(rest, b)
		}
	}
	return System{Points: x.Points, Blocks: rest}, ErrNone
}

// placesOf returns the places that points of b have in a list, as far as they are in it.
func placesOf(b Block, points []int64) []int64 {
	var places []int64
	for _, a := range b {
		if i := slices.Index(points, a); i >= 0 {
			places = append(places, int64(i))
		}
	}
	return places
}

// BlocksOn returns the part on at least three points, an ascending list of different ones, and
// ErrNone.
func BlocksOn(x System, points []int64) (System, int64) {
	if !IsSystem(x) {
		return System{}, ErrInvalid
	}
	if len(points) < leastPoints || !isNumberSet(x.Points, points) {
		return System{}, ErrRange
	}
	part := System{Points: int64(len(points))}
	for _, b := range x.Blocks {
		// The points ascend, so their places do, and the blocks stay in order.
		if places := placesOf(b, points); len(places) == len(b) {
			part.Blocks = append(part.Blocks, Block(places))
		}
	}
	return part, ErrNone
}

// RenumberSystem returns x renumbered by p, and ErrNone.
func RenumberSystem(x System, p []int64) (System, int64) {
	if !IsSystem(x) {
		return System{}, ErrInvalid
	}
	if !isRenumbering(x.Points, p) {
		return System{}, ErrRange
	}
	var blocks []Block
	for _, b := range x.Blocks {
		blocks = append(blocks, blockFrom([]int64{p[b[0]], p[b[1]], p[b[2]]}))
	}
	return systemFrom(x.Points, blocks), ErrNone
}

// CommonBlocks returns the blocks that are in both systems, ascending, and ErrNone. Errors:
// ErrRange if they have not as many points.
func CommonBlocks(x System, y System) ([]Block, int64) {
	if !IsSystem(x) || !IsSystem(y) {
		return nil, ErrInvalid
	}
	if x.Points != y.Points {
		return nil, ErrRange
	}
	return blocksIn(x.Blocks, setOf(y.Blocks)), ErrNone
}

// FreeBlocks returns all blocks that can be put in, ascending, and ErrNone.
func FreeBlocks(x System) ([]Block, int64) {
	if !IsSystem(x) {
		return nil, ErrInvalid
	}
	taken := pairsIn(x.Blocks)
	var free []Block
	for b := range allBlocks(x.Points) {
		if isBlockFree(taken, b) {
			free = append(free, b)
		}
	}
	return free, ErrNone
}

// turnedSystem returns the system of the given blocks turned by all numbers modulo v.
func turnedSystem(v int64, bases ...[]int64) System {
	var blocks []Block
	for _, base := range bases {
		for i := range v {
			var turned []int64
			for _, a := range base {
				turned = append(turned, (i+a)%v)
			}
			blocks = append(blocks, blockFrom(turned))
		}
	}
	x := systemFrom(v, blocks)
	// A block such as 0, 5, 10 comes back before a whole turn.
	x.Blocks = slices.Compact(x.Blocks)
	return x
}

// ruledSystem returns the system of all blocks that keep to a rule.
func ruledSystem(v int64, keeps func(Block) bool) System {
	x := System{Points: v}
	for b := range allBlocks(v) {
		if keeps(b) {
			x.Blocks = append(x.Blocks, b)
		}
	}
	return x
}

func isAffineLine(b Block) bool {
	first := b[0]/3 + b[1]/3 + b[2]/3
	second := b[0]%3 + b[1]%3 + b[2]%3
	return first%3 == 0 && second%3 == 0
}

// isProjectiveLine uses that each digit has an even sum just if the numbers cancel out by xor.
func isProjectiveLine(b Block) bool {
	return (b[0]+1)^(b[1]+1)^(b[2]+1) == 0
}

// NamedSystem returns the system with a name, and ErrNone. Errors: ErrNotFound if there is none.
func NamedSystem(name string) (System, int64) {
	switch name {
	case "single":
		return System{Points: 3, Blocks: []Block{{0, 1, 2}}}, ErrNone
	case "fano":
		return turnedSystem(7, []int64{0, 1, 3}), ErrNone
	case "affine":
		return ruledSystem(9, isAffineLine), ErrNone
	case "cyclic13":
		return turnedSystem(13, []int64{0, 1, 4}, []int64{0, 2, 7}), ErrNone
	case "cyclic15":
		return turnedSystem(15, []int64{0, 1, 4}, []int64{0, 2, 8}, []int64{0, 5, 10}), ErrNone
	case "projective15":
		return ruledSystem(15, isProjectiveLine), ErrNone
	}
	return System{}, ErrNotFound
}

// blockText returns the letters of the points of b.
func blockText(b Block) string {
	var letters strings.Builder
	for _, a := range b {
		letters.WriteByte('a' + byte(a))
	}
	return letters.String()
}

// SystemText returns the text of x, and ErrNone.
func SystemText(x System) (string, int64) {
	if !IsSystem(x) {
		return "", ErrInvalid
	}
	var words []string
	for _, b := range x.Blocks {
		words = append(words, blockText(b))
	}
	return strconv.FormatInt(x.Points, 10) + ":" + strings.Join(words, ","), ErrNone
}

// parseNumber reads a number as SystemText writes it: without a sign or superfluous zeros.
func parseNumber(text string) (int64, bool) {
	n, err := strconv.ParseInt(text, 10, 64)
	if err != nil || n < 0 || strconv.FormatInt(n, 10) != text {
		return 0, false
	}
	return n, true
}

// parseBlock reads three letters as numbers; whether they are points of a block is left to others.
func parseBlock(text string) (Block, bool) {
	if len(text) != len(Block{}) {
		return Block{}, false
	}
	var points []int64
	for i := range len(text) {
		points = append(points, int64(text[i])-'a')
	}
	return Block(points), true
}

// ParseSystem returns the system with a text, and ErrNone. Errors: ErrSyntax if there is none. (No
// other errors are returned.)
func ParseSystem(text string) (System, int64) {
	head, tail, found := strings.Cut(text, ":")
	v, ok := parseNumber(head)
	if !found || !ok {
		return System{}, ErrSyntax
	}
	x := System{Points: v}
	if tail != "" {
		for word := range strings.SplitSeq(tail, ",") {
			b, ok := parseBlock(word)
			if !ok {
				return System{}, ErrSyntax
			}
			x.Blocks = append(x.Blocks, b)
		}
	}
	if !IsSystem(x) {
		return System{}, ErrSyntax
	}
	return x, ErrNone
}
