package tests

import (
	"fmt"
	"runtime"
	"slices"
	"strings"
	"sync"
	"testing"

	"loop.example/g01355/impl"
)

// TestSampleDesks checks that the samples have what the tests of the console need.
func TestSampleDesks(t *testing.T) {
	random := randomNumbers(112)
	good, bad, points, blocks := map[string]int{}, map[string]int{}, map[int]bool{}, map[int]bool{}
	equal := 0
	for _, d := range sampleDesks(t) {
		points[int(d.First.Points)] = true
		if d.First.Points >= 13 {
			blocks[len(d.First.Blocks)] = true
		}
		if sameSystem(d.First, d.Second) {
			equal++
		}
		for _, command := range commandNames() {
			for _, line := range linesFor(command, d, &random) {
				if _, output := plainLine(t, d, line); output == wrong {
					bad[command]++
				} else {
					good[command]++
				}
			}
		}
	}
	wantKeys(t, "points", points, 3, 4, 5, 6, 7, 8, 9, 10, 11, 12, 13, 14, 15)
	for _, n := range []int{0, 1, 26, 35} {
		if !blocks[n] {
			t.Errorf("samples: no system of 13 or 15 points with %d blocks", n)
		}
	}
	never := strings.Fields("fill free full keep left look paschs reset show stuck swap")
	for _, command := range commandNames() {
		if good[command] < 5 || bad[command] < 10 && !slices.Contains(never, command) {
			t.Errorf("samples: %s has %d outputs, and is wrong %d times", command, good[command], bad[command])
		}
	}
	if equal < 10 {
		t.Errorf("samples: %d desks with equal systems", equal)
	}
}

func TestNewDesk(t *testing.T) {
	for range 2 {
		d := impl.NewDesk()
		if !impl.IsDesk(d) {
			t.Errorf("IsDesk(%v) = false", d)
		}
		wantDesk(t, "NewDesk", d, newDesk(t))
	}
}

func TestIsDesk(t *testing.T) {
	for _, plain := range sampleDesks(t) {
		d, guard := guardDesk(plain)
		if !impl.IsDesk(d) {
			t.Errorf("IsDesk(%v) = false", plain)
		}
		guard.check(t, "IsDesk")
	}
	for _, x := range samples(t) {
		if !impl.IsDesk(impl.Desk{First: x, Second: x}) {
			t.Errorf("IsDesk of %v twice = false", x)
		}
	}
}

// noDesks returns what is no desk, with the reasons: one of the systems, or both, are none.
func noDesks(t *testing.T) map[string]impl.Desk {
	t.Helper()
	list := map[string]impl.Desk{"zero value": {}}
	for name, x := range invalidSystems() {
		for _, y := range []impl.System{named(t, "fano"), {Points: 15}} {
			list[fmt.Sprintf("first: %s, second: %d points", name, y.Points)] = impl.Desk{First: x, Second: y}
			list[fmt.Sprintf("first: %d points, second: %s", y.Points, name)] = impl.Desk{First: y, Second: x}
		}
		list["both: "+name] = impl.Desk{First: x, Second: x}
	}
	return list
}

// TestNoDesks carries out lines on what is no desk: not even those that need none of its systems, or that
// put another one in the place of what is none, are carried out.
func TestNoDesks(t *testing.T) {
	lines := append(commandNames(), "", " ", "fly", "system 7:", "name fano", "put abc", "take 0", "renumber 0 1 2 3 4 5 6", "threefold 2",
		"cyclic 7 0", "switch 0 1 2", "cycle 0 1 2", "pasch 0", "at 7 0", "turn 1", "third 0 1")
	for name, d := range noDesks(t) {
		if impl.IsDesk(d) {
			t.Errorf("IsDesk, %s = true", name)
		}
		for _, line := range lines {
			wantLine(t, d, line, impl.Desk{}, "")
		}
	}
}

// handLine is a line on a desk, and its output. A desk is told by the texts or names of its systems.
type handLine struct {
	first, second, line, output string
}

// desk returns the desk on which the line is carried out.
func (c handLine) desk(t *testing.T) impl.Desk {
	t.Helper()
	texts := []string{c.first, c.second}
	for i, text := range texts {
		if known, ok := namedTexts()[text]; ok {
			texts[i] = known
		}
	}
	return deskOf(t, texts[0], texts[1])
}

// makingLines returns lines that put a system in the place of the first one.
func makingLines() []handLine {
	fano, affine := namedTexts()["fano"], namedTexts()["affine"]
	return []handLine{
		{"fano", "single", "system 3:", "3:"},
		{"fano", "single", "system 15:", "15:"},
		{"15:", "single", "system 9:abc,def,ghi", "9:abc,def,ghi"},
		{"15:", "15:", "system " + fano, fano},
		{"fano", "single", "name single", "3:abc"},
		{"15:", "15:", "name fano", fano},
		{"fano", "single", "name affine", affine},
		{"fano", "single", "name cyclic13", namedTexts()["cyclic13"]},
		{"fano", "single", "name cyclic15", namedTexts()["cyclic15"]},
		{"fano", "single", "name projective15", namedTexts()["projective15"]},
		{"3:", "fano", "put abc", "3:abc"},
		{"7:abc,efg", "fano", "put ade", "7:abc,ade,efg"},
		{"15:", "fano", "put mno", "15:mno"},
		{"15:mno", "15:abc", "put abc", "15:abc,mno"},
		{"3:abc", "fano", "take 0", "3:"},
		{"fano", "single", "take 0", "7:acg,aef,bce,bfg,cdf,deg"},
		{"fano", "single", "take 6", "7:abd,acg,aef,bce,bfg,cdf"},
		{"15:abc,mno", "fano", "take 1", "15:abc"},
		{"5:cde", "fano", "renumber 4 3 2 1 0", "5:abc"},
		{"5:", "fano", "renumber 4 3 2 1 0", "5:"},
		{"fano", "single", "renumber 1 0 2 3 4 5 6", "7:abd,ace,afg,bcg,bef,cdf,deg"},
		{"15:abc", "15:", "renumber 14 13 12 11 10 9 8 7 6 5 4 3 2 1 0", "15:mno"},
		{"15:", "3:", "threefold 2", "7:abd,ace,afg,bcg,bef,cdf,deg"},
		{"fano", "single", "threefold 3", "9:abf,ace,adg,ahi,bcd,beh,bgi,cfi,cgh,dei,dfh,efg"},
		{"single", "15:", "double", "7:abc,adg,aef,bdf,beg,cde,cfg"},
		{"single", "single", "product", affine},
		{"fano", "3:", "cyclic 7 0", fano},
		{"15:", "3:", "cyclic 13 0", namedTexts()["cyclic13"]},
		{"15:", "3:", "cyclic 15 0", namedTexts()["cyclic15"]},
		{"fano", "single", "switch 0 1 2", "7:abd,ace,afg,bcg,bef,cdf,deg"},
		{"fano", "single", "switch 1 0 2", "7:abd,ace,afg,bcg,bef,cdf,deg"},
		{"6:abc,ade,bdf,cef", "3:", "pasch 0", "6:abd,ace,bcf,def"},
		{"fano", "3:", "pasch 0", "7:abc,adg,aef,bde,bfg,cdf,ceg"},
		{"7:", "3:", "fill", "7:abc,ade,afg,bdf,beg,cdg,cef"},
		{"4:", "3:", "fill", "4:abc"},
		{"6:abc,ade,bdf,cef", "3:", "fill", "6:abc,ade,bdf,cef"},
		{"13:", "3:", "fill", "13:abc,ade,afg,ahi,ajk,alm,bdf,beg,bhj,bik,cdg,cef,chk,cij,dhl,dim,ehm,eil,fjl,fkm,gjm,gkl"},
		{"15:", "3:", "fill", namedTexts()["projective15"]},
		{"7:", "3:", "complete", "7:abc,ade,afg,bdf,beg,cdg,cef"},
		{"7:bdg", "3:", "complete", "7:abc,ade,afg,bdg,bef,cdf,ceg"},
		{"fano", "3:", "complete", fano},
		{"15:", "3:", "at 3 0", "3:abc"},
		{"15:", "3:", "at 7 10", fano},
		{"15:", "3:", "at 7 29", "7:abg,acf,ade,bce,bdf,cdg,efg"},
		{"fano", "single", "at 9 839", "9:abi,ach,adg,aef,bcg,bdf,beh,cde,cfi,dhi,egi,fgh"},
		{"5:cde", "3:", "turn 0", "5:cde"},
		{"5:cde", "3:", "turn 1", "5:ade"},
		{"5:cde", "3:", "turn 4", "5:bcd"},
		{"15:mno", "3:", "turn 3", "15:abc"},
		{"cyclic15", "3:", "turn 14", namedTexts()["cyclic15"]},
	}
}

func TestMakingLinesByHand(t *testing.T) {
	for _, c := range makingLines() {
		d := c.desk(t)
		wantLine(t, d, c.line, impl.Desk{First: system(t, c.output), Second: d.Second}, c.output)
	}
}

// askingLines returns lines that change nothing.
func askingLines() []handLine {
	fano, affine := namedTexts()["fano"], namedTexts()["affine"]
	return []handLine{
		{"fano", "3:", "show", fano},
		{"15:", "fano", "show", "15:"},
		{"fano", "3:", "look", "3:"},
		{"15:", "affine", "look", affine},
		{"fano", "3:", "full", "yes"},
		{"3:", "fano", "full", "no"},
		{"cyclic13", "3:", "full", "yes"},
		{"15:", "fano", "full", "no"},
		{"fano", "3:", "third 0 1", "3"},
		{"fano", "3:", "third 6 0", "2"},
		{"15:eno", "fano", "third 4 14", "13"},
		{"15:abo", "fano", "third 1 14", "0"},
		{"fano", "3:", "left", "none"},
		{"4:abc", "fano", "left", "0 3;1 3;2 3"},
		{"4:", "fano", "left", "0 1;0 2;0 3;1 2;1 3;2 3"},
		{"7:abd,acg,aef,bce,bfg,cdf", "3:", "left", "3 4;3 6;4 6"},
		{"fano", "3:", "free", "none"},
		{"3:", "fano", "free", "abc"},
		{"4:", "fano", "free", "abc,abd,acd,bcd"},
		{"fano", "fano", "common", fano[2:]},
		{"3:", "single", "common", "none"},
		{"single", "single", "common", "abc"},
		{"cyclic15", "projective15", "common", "alm,bik,cdg,ejo,fhn"},
		{"fano", "single", "paschs", "7"},
		{"affine", "single", "paschs", "0"},
		{"projective15", "single", "paschs", "105"},
		{"15:", "fano", "paschs", "0"},
		{"fano", "single", "cycle 0 1 2", "acg,aef,bce,bfg>ace,afg,bcg,bef"},
		{"fano", "single", "cycle 1 0 2", "acg,aef,bce,bfg>ace,afg,bcg,bef"},
		{"cyclic13", "single", "cycle 0 1 3", "adm,agi,bdi,bgm>adi,agm,bdm,bgi"},
		{"cyclic13", "single", "cycle 0 1 2", "ach,afl,ajk,bcf,bhj,bkl>acf,ahj,akl,bch,bfl,bjk"},
		{"fano", "fano", "difference", "none>none"},
		{"15:", "15:", "difference", "none>none"},
		{"6:abc,ade,bdf,cef", "6:abd,ace,bcf,def", "difference", "abc,ade,bdf,cef>abd,ace,bcf,def"},
		{"7:abd,ace,afg,bcg,bef,cdf,deg", "fano", "difference", "ace,afg,bcg,bef>acg,aef,bce,bfg"},
		{"cyclic15", "projective15", "same", "yes"},
		{"fano", "7:abd,ace,afg,bcg,bef,cdf,deg", "same", "yes"},
		{"fano", "single", "same", "no"},
		{"fano", "single", "count", "168"},
		{"single", "fano", "count", "6"},
		{"projective15", "single", "count", "20160"},
		{"fano", "single", "points", "0 1 2 3 4 5 6"},
		{"cyclic13", "single", "points", "0 1 2 3 4 5 6 7 8 9 10 11 12"},
		{"fano", "single", "blocks", "0 1 2 3 4 5 6"},
		{"single", "fano", "blocks", "0"},
		{"cyclic13", "single", "blocks", "0 2 5 6 10 11 14 15 18 21 23 24 25;1 3 4 7 8 9 12 13 16 17 19 20 22"},
		{"single", "affine", "around", "1 2 0"},
		{"fano", "affine", "around", "1 2 3 4 5 6 0"},
		{"fano", "15:", "stuck", "yes"},
		{"6:abc,ade,bdf,cef", "15:", "stuck", "yes"},
		{"15:", "fano", "stuck", "no"},
		{"7:abd,acg,aef,bce,bfg,cdf", "7:", "fixes", "yes"},
		{"7:", "fano", "fixes", "no"},
		{"3:", "15:", "fixes", "yes"},
		{"7:", "fano", "completions", "30"},
		{"9:", "fano", "completions", "840"},
		{"7:abc,ade", "fano", "completions", "2"},
		{"cyclic15", "9:", "completions", "1"},
		{"single", "affine", "fixing", "none"},
		{"fano", "affine", "fixing", "0 1 3"},
		{"affine", "fano", "fixing", "0 1 5 10"},
		{"single", "fano", "number", "0"},
		{"fano", "single", "number", "10"},
		{"affine", "fano", "number", "71"},
		{"single", "fano", "numbers", "0 1"},
		{"fano", "single", "numbers", "8 14 0 7 0 0 0 1"},
		{"15:", "15:", "apart", "yes"},
		{"fano", "7:abc,ade,afg,bdf,beg,cdg,cef", "apart", "yes"},
		{"cyclic15", "projective15", "apart", "no"},
		{"9:abd,bce", "fano", "mate", "2"},
		{"15:", "fano", "mate", "1"},
	}
}

func TestAskingLinesByHand(t *testing.T) {
	for _, c := range askingLines() {
		d := c.desk(t)
		wantLine(t, d, c.line, d, c.output)
	}
}

// TestMovingLinesByHand has the lines that change the second system.
func TestMovingLinesByHand(t *testing.T) {
	for _, c := range []struct {
		before handLine
		after  handLine
	}{
		{handLine{"fano", "single", "swap", "3:abc"}, handLine{first: "single", second: "fano"}},
		{handLine{"15:", "cyclic13", "swap", namedTexts()["cyclic13"]}, handLine{first: "cyclic13", second: "15:"}},
		{handLine{"15:abc", "15:abc", "swap", "15:abc"}, handLine{first: "15:abc", second: "15:abc"}},
		{handLine{"fano", "single", "keep", namedTexts()["fano"]}, handLine{first: "fano", second: "fano"}},
		{handLine{"15:", "fano", "keep", "15:"}, handLine{first: "15:", second: "15:"}},
		{handLine{"fano", "fano", "keep", namedTexts()["fano"]}, handLine{first: "fano", second: "fano"}},
		{handLine{"15:", "cyclic13", "reset", "ok"}, handLine{first: "fano", second: "single"}},
		{handLine{"fano", "single", "reset", "ok"}, handLine{first: "fano", second: "single"}},
		{handLine{"single", "fano", "reset", "ok"}, handLine{first: "fano", second: "single"}},
	} {
		wantLine(t, c.before.desk(t), c.before.line, c.after.desk(t), c.before.output)
	}
}

// refusedLines returns lines whose words are as they should be, and that functions refuse.
func refusedLines() []handLine {
	var list []handLine
	add := func(first, second string, lines ...string) {
		for _, line := range lines {
			list = append(list, handLine{first, second, line, wrong})
		}
	}
	add("fano", "single", "system 7", "system :", "system 2:", "system 16:", "system 07:", "system +7:", "system 7:abd,", "system 7:bad", "system 7:abd,abe",
		"system 7:abh", "system 7:acg,abd", "system 7:ABD", "system fano", "system -7:", "system 7:abd,,acg", "system 7;abd", "system 99999999999999999999:")
	add("fano", "single", "name sing", "name Fano", "name fano1", "name cyclic", "name cyclic7", "name 7:", "name projective", "name name")
	add("fano", "single", "put abd", "put abc", "put efg", "put hij", "put mno")
	add("6:", "single", "put abg", "put ghi", "put mno", "put aah", "put aab", "put abb", "put baa", "put bac", "put cba", "put acb", "put abp", "put abz", "put ab", "put a",
		"put abcd", "put ABC", "put aBc", "put a,b", "put 012", "put 0", "put `ab", "put ab{", "put {|}", "put ^_`", "put é", "put aé", "put abc,def", "put abc,", "put \xffab", "put \x00ab", "put ]^_")
	add("fano", "single", "take 7", "take 999999999", "turn 7", "turn 999999999", "third 0 7", "third 7 0", "third 0 0", "third 999999999 0")
	add("15:", "fano", "take 0", "third 0 1", "third 3 4")
	add("fano", "single", "renumber", "renumber 0", "renumber 0 1 2 3 4 5", "renumber 0 1 2 3 4 5 6 7", "renumber 0 1 2 3 4 5 5", "renumber 1 2 3 4 5 6 7", "renumber 0 1 2", "renumber 0 1 2 3 4 5 999999999")
	add("fano", "single", "threefold 0", "threefold 1", "threefold 6", "threefold 999999999", "cyclic 3 0", "cyclic 9 0", "cyclic 0 0", "cyclic 7 1", "cyclic 13 1",
		"cyclic 15 1", "cyclic 7 999999999", "cyclic 999999999 0", "at 3 1", "at 7 30", "at 9 840", "at 13 0", "at 15 0", "at 0 0", "at 7 999999999", "at 999999999 0")
	for _, command := range []string{"switch", "cycle"} {
		add("fano", "single", command+" 0 0 2", command+" 0 1 0", command+" 0 1 1", command+" 0 1 3", command+" 0 1 7", command+" 0 7 2", command+" 7 1 2", command+" 0 1 999999999")
		add("15:", "projective15", command+" 0 1 2", command+" 0 1 14")
		add("13:abc", "cyclic13", command+" 0 1 2", command+" 0 1 3")
	}
	add("fano", "single", "pasch 7", "pasch 999999999", "product", "common", "difference", "apart", "mate")
	add("affine", "fano", "pasch 0", "around", "double", "product")
	add("single", "projective15", "product")
	add("projective15", "single", "product", "double", "fixing", "number", "numbers")
	add("single", "3:", "product", "same", "difference")
	for _, first := range []string{"3:", "7:", "9:abc"} {
		add(first, "single", "double", "product", "same", "count", "points", "blocks", "around", "fixing", "number", "numbers")
	}
	for _, first := range []string{"13:", "15:", "13:abc", "15:mno", "4:", "14:"} {
		add(first, "fano", "complete", "fixes", "completions", "pasch 0", "double", "product", "same", "count", "points", "blocks", "around", "fixing", "number", "numbers", "common", "difference", "apart")
	}
	add("7:abc,def", "fano", "complete", "difference")
	add("cyclic13", "cyclic15", "fixing", "number", "numbers", "common", "difference", "apart")
	return list
}

func TestRefusedLinesByHand(t *testing.T) {
	for _, c := range refusedLines() {
		d := c.desk(t)
		wantLine(t, d, c.line, d, wrong)
	}
}

// goodLines returns lines that have an output: for each command there is one.
func goodLines() []handLine {
	var list []handLine
	add := func(first, second string, lines ...string) {
		for _, line := range lines {
			list = append(list, handLine{first: first, second: second, line: line})
		}
	}
	for _, first := range []string{"fano", "projective15"} {
		add(first, "single", "system 7:", "name affine", "take 0", "swap", "keep", "threefold 2", "cyclic 13 0", "switch 0 1 4", "pasch 0",
			"fill", "complete", "at 9 0", "turn 2", "show", "look", "full", "third 0 1", "left", "free", "paschs", "cycle 0 1 4", "same",
			"count", "points", "blocks", "stuck", "fixes", "completions", "reset")
	}
	add("fano", "fano", "renumber 6 5 4 3 2 1 0", "double", "fixing", "number", "numbers", "around", "common", "difference", "apart")
	add("projective15", "cyclic15", "renumber 14 13 12 11 10 9 8 7 6 5 4 3 2 1 0", "common", "difference", "apart")
	add("single", "single", "product", "common", "difference", "apart", "fixing")
	add("9:", "fano", "put abi", "mate", "completions")
	return list
}

func TestGoodLines(t *testing.T) {
	seen := map[string]bool{}
	for _, c := range goodLines() {
		command, _, _ := strings.Cut(c.line, " ")
		seen[command] = true
		d := c.desk(t)
		next, output := plainLine(t, d, c.line)
		wantLine(t, d, c.line, next, output)
		if output == wrong {
			t.Errorf("samples: %q on %s and %s is wrong", c.line, c.first, c.second)
		}
	}
	if len(seen) != len(commandNames()) {
		t.Errorf("samples: lines with %d commands", len(seen))
	}
}

// TestDamagedLinesByHand damages lines that have an output: all of them are wrong then.
func TestDamagedLinesByHand(t *testing.T) {
	for _, c := range goodLines() {
		d, line := c.desk(t), c.line
		for _, bad := range []string{
			" " + line, line + " ", "  " + line, line + "  ", line + " 0", line + " 1", line + " a", "\n" + line, line + "\n", line + "\r",
			line + "\r\n", line + "\t", "\t" + line, line + "\x00", line + "\x0b", line + "\u00a0", line + "\u2003", line + ";", line + "!",
			"x" + line, "0 " + line, strings.ToUpper(line[:1]) + line[1:], strings.ToUpper(line), line + " " + line, line + "\n" + line,
			"\ufeff" + line, line + "\xff",
		} {
			wantLine(t, d, bad, d, wrong)
		}
		if command, rest, found := strings.Cut(line, " "); found {
			for _, bad := range []string{
				command, command + " ", command + "  " + rest, command + "\t" + rest, command + "\n" + rest, command + rest,
				command + ", " + rest, command + "\u00a0" + rest,
			} {
				wantLine(t, d, bad, d, wrong)
			}
		}
	}
}

// noNumbers returns what is no number as lines have them, though it may look like n.
func noNumbers(n string) []string {
	return []string{
		"", "0" + n, "00" + n, "+" + n, "-" + n, "00000000" + n, "000000000" + n, "0000000000" + n, n + "0000000000", "1000000000",
		"4294967296", "9999999999", n + ".", n + ".0", "0x" + n, "0b" + n, "0o" + n, n + "e0", n + "_", "_" + n, n + "\t", "\t" + n,
		n + "\n", n + "\r", n + ",", "'" + n + "'", "(" + n + ")", "a", "x", "N", "-", "+", "-0", "+0", "\u0661", "\uff11", "\u00b9",
		"9223372036854775807", "9223372036854775808", "-9223372036854775808", "18446744073709551616", "1844674407370955161" + n,
		strings.Repeat("0", 100), strings.Repeat("9", 1000), n + "\x00",
	}
}

// TestNoNumbersByHand puts what is no number in the place of each number of a line.
func TestNoNumbersByHand(t *testing.T) {
	for _, c := range goodLines() {
		d, words := c.desk(t), strings.Split(c.line, " ")
		if formsOfLines()[words[0]] == "TEXT" {
			continue
		}
		for i, word := range words[1:] {
			for _, bad := range noNumbers(word) {
				other := slices.Clone(words)
				other[i+1] = bad
				wantLine(t, d, strings.Join(other, " "), d, wrong)
			}
		}
	}
}

// TestNoCommands has lines whose first word is no command.
func TestNoCommands(t *testing.T) {
	list := []string{"", " ", "  ", "\n", "\t", "\x00", "fly", "sho", "shows", "SHOW", "Show", "shown", "show,look", "show;look", "show\nlook", "none", "error", "ok", "yes", "X", "Y", "TEXT",
		"0", "7:", "7:abd", "abc", "fano", "single", "cycles", "turns", "points,", "stuck,", "stuck, fixes", "show, look", "third", "third 0", "third 0 1 2", "third 0 1 ", "third  0 1", " third 0 1",
		"system", "name", "put", "take", "threefold", "cyclic", "cyclic 7", "switch 0 1", "switch", "pasch", "at", "at 7", "turn", "cycle", "cycle 0", "cycle 0 1", "cycle 0 1 2 3",
		"isfull", "IsFull", "help", "quit", "exit", "#", "//", "-", "é", "\xff", strings.Repeat(" ", 10000), strings.Repeat("x", 10000), strings.Repeat("show ", 1000), "take " + strings.Repeat("0", 10000)}
	for _, d := range []impl.Desk{newDesk(t), deskOf(t, "15:", "13:"), deskOf(t, namedTexts()["cyclic15"], "15:abc")} {
		for _, line := range list {
			wantLine(t, d, line, d, wrong)
		}
	}
}

// TestLinesOfSamples carries out lines with all commands on all kinds of desks, and such as are damaged.
func TestLinesOfSamples(t *testing.T) {
	var group sync.WaitGroup
	for i, d := range sampleDesks(t) {
		group.Go(func() {
			random := randomNumbers(1000 + i)
			for _, command := range commandNames() {
				for _, line := range linesFor(command, d, &random) {
					next, output := plainLine(t, d, line)
					wantLine(t, d, line, next, output)
					damaged := damagedLines(line)
					for range 3 {
						bad := damaged[random.below(len(damaged))]
						next, output := plainLine(t, d, bad)
						wantLine(t, d, bad, next, output)
					}
				}
			}
		})
	}
	group.Wait()
}

// TestLinesOfManyPoints carries out lines on desks with systems of 13 and 15 points, with and without
// blocks: all of them return.
func TestLinesOfManyPoints(t *testing.T) {
	random := randomNumbers(113)
	list := []impl.System{{Points: 13}, {Points: 15}, system(t, "13:abc"), system(t, "15:mno")}
	for _, name := range []string{"cyclic13", "cyclic15", "projective15"} {
		x := named(t, name)
		list = append(list, x)
		for _, n := range []int{1, 12, 13, len(x.Blocks) - 1} {
			list = append(list, withoutSome(x, n, &random))
		}
	}
	for i, x := range list {
		d := impl.Desk{First: x, Second: list[(i*5+3)%len(list)]}
		for _, command := range commandNames() {
			for _, line := range linesFor(command, d, &random) {
				next, output := plainLine(t, d, line)
				wantLine(t, d, line, next, output)
			}
		}
	}
}

// TestDesksOfOneSystem has desks both systems of which are in the same memory: not so those of the desks
// after the lines.
func TestDesksOfOneSystem(t *testing.T) {
	for _, name := range []string{"single", "fano", "affine", "projective15"} {
		plain := named(t, name)
		want := impl.Desk{First: plain, Second: plain}
		for _, line := range []string{"show", "look", "swap", "keep", "fly", "", "take 99", "left", "common", "complete", "fill", "turn 0", "difference", "name " + name} {
			x, guard := guardSystem(plain)
			next, _ := impl.RunLine(impl.Desk{First: x, Second: x}, line)
			wantDesk(t, line+" on a desk of one system", next, want)
			guard.check(t, line)
		}
	}
}

// TestConsoleByHand has texts of several lines.
func TestConsoleByHand(t *testing.T) {
	fano := namedTexts()["fano"]
	for _, c := range []struct {
		text, output, first, second string
	}{
		{"", "", fano, "3:abc"},
		{"\n", "", fano, "3:abc"},
		{"\n\n\n", "", fano, "3:abc"},
		{"show", fano + "\n", fano, "3:abc"},
		{"show\n", fano + "\n", fano, "3:abc"},
		{"\nshow", fano + "\n", fano, "3:abc"},
		{"\n\nshow\n\n\nlook\n\n", fano + "\n3:abc\n", fano, "3:abc"},
		{"look\nshow", "3:abc\n" + fano + "\n", fano, "3:abc"},
		{"paschs", "7\n", fano, "3:abc"},
		{" ", "error\n", fano, "3:abc"},
		{" \n", "error\n", fano, "3:abc"},
		{"\n \n\n \n", "error\nerror\n", fano, "3:abc"},
		{"show\r\nlook\r\n", "error\nerror\n", fano, "3:abc"},
		{"show\rlook", "error\n", fano, "3:abc"},
		{"show\x0blook\x0cshow\u0085look\u2028show", "error\n", fano, "3:abc"},
		{"show;look", "error\n", fano, "3:abc"},
		{"show\x00\nlook", "error\n3:abc\n", fano, "3:abc"},
		{"\xff\nswap\n\xfe", "error\n3:abc\nerror\n", "3:abc", fano},
		{"fly\nshow\nfly", "error\n" + fano + "\nerror\n", fano, "3:abc"},
		{"swap\nswap", "3:abc\n" + fano + "\n", fano, "3:abc"},
		{"swap\nlook\nshow\n", "3:abc\n" + fano + "\n3:abc\n", "3:abc", fano},
		{"system 15:\nput mno\nput abc\nkeep\ntake 0\nshow\nlook\n", "15:\n15:mno\n15:abc,mno\n15:abc,mno\n15:mno\n15:mno\n15:abc,mno\n", "15:mno", "15:abc,mno"},
		{"name single\nput abc\ntake 1\ndouble\nput abc\n", "3:abc\nerror\nerror\n7:abc,adg,aef,bdf,beg,cde,cfg\nerror\n", "7:abc,adg,aef,bdf,beg,cde,cfg", "3:abc"},
		{"keep\nswitch 0 1 2\ndifference\nsame\napart\nreset\nlook", fano + "\n7:abd,ace,afg,bcg,bef,cdf,deg\nace,afg,bcg,bef>acg,aef,bce,bfg\nyes\nno\nok\n3:abc\n", fano, "3:abc"},
		{"system 6:abc,ade,bdf,cef\nkeep\npaschs\npasch 0\npasch 0\ndifference", "6:abc,ade,bdf,cef\n6:abc,ade,bdf,cef\n1\n6:abd,ace,bcf,def\n6:abc,ade,bdf,cef\nnone>none\n", "6:abc,ade,bdf,cef", "6:abc,ade,bdf,cef"},
		{"name cyclic15\nkeep\nname projective15\ncommon\nnumber\nsame", namedTexts()["cyclic15"] + "\n" + namedTexts()["cyclic15"] + "\n" + namedTexts()["projective15"] + "\nalm,bik,cdg,ejo,fhn\nerror\nyes\n", namedTexts()["projective15"], namedTexts()["cyclic15"]},
	} {
		wantText(t, c.text, c.output, deskOf(t, c.first, c.second), true)
	}
}

// TestConsoleLimits has texts of MaxConsole bytes and of MaxLines lines, and of one more.
func TestConsoleLimits(t *testing.T) {
	if impl.MaxConsole != 4000 || impl.MaxLines != 40 {
		t.Errorf("MaxConsole is %d, MaxLines is %d", impl.MaxConsole, impl.MaxLines)
	}
	long := func(n int) string { return "swap\nname " + strings.Repeat("x", n-len("swap\nname ")) }
	lines := strings.Repeat(strings.Repeat("y", 99)+"\n", 39)
	swapped, d := deskOf(t, "3:abc", namedTexts()["fano"]), newDesk(t)
	for _, c := range []struct {
		what, text, output string
		desk               impl.Desk
		ok                 bool
	}{
		{"3999 bytes", long(3999), "3:abc\nerror\n", swapped, true},
		{"4000 bytes", long(4000), "3:abc\nerror\n", swapped, true},
		{"3999 bytes and a newline", long(3999) + "\n", "3:abc\nerror\n", swapped, true},
		{"4001 bytes", long(4001), "", impl.Desk{}, false},
		{"4000 bytes and a newline", long(4000) + "\n", "", impl.Desk{}, false},
		{"a million bytes", long(1000000), "", impl.Desk{}, false},
		{"2000 letters of two bytes", strings.Repeat("é", 2000), "error\n", d, true},
		{"2001 letters of two bytes", strings.Repeat("é", 2001), "", impl.Desk{}, false},
		{"4000 bytes in 40 lines", lines + strings.Repeat("z", 100), strings.Repeat("error\n", 40), d, true},
		{"4000 bytes in 40 lines with a last newline", lines + strings.Repeat("z", 99) + "\n", strings.Repeat("error\n", 40), d, true},
		{"4000 bytes in 41 lines", lines + strings.Repeat("z", 98) + "\nz", "", impl.Desk{}, false},
		{"4000 newlines", strings.Repeat("\n", 4000), "", impl.Desk{}, false},
		{"39 lines", strings.Repeat("swap\n", 39), strings.Repeat("3:abc\n"+namedTexts()["fano"]+"\n", 20)[:19*(6+30)+6], swapped, true},
		{"40 lines", strings.Repeat("paschs\n", 40), strings.Repeat("7\n", 40), d, true},
		{"40 lines without a last newline", strings.Repeat("paschs\n", 39) + "paschs", strings.Repeat("7\n", 40), d, true},
		{"41 lines", strings.Repeat("paschs\n", 41), "", impl.Desk{}, false},
		{"40 lines and a last one without a newline", strings.Repeat("paschs\n", 40) + "x", "", impl.Desk{}, false},
		{"40 empty lines", strings.Repeat("\n", 40), "", d, true},
		{"41 empty lines", strings.Repeat("\n", 41), "", impl.Desk{}, false},
		{"39 empty lines and one", strings.Repeat("\n", 39) + "paschs", "7\n", d, true},
		{"39 empty lines and one with a newline", strings.Repeat("\n", 39) + "swap\n", "3:abc\n", swapped, true},
		{"40 empty lines and one", strings.Repeat("\n", 40) + "paschs", "", impl.Desk{}, false},
		{"one and 39 empty lines", "swap\n" + strings.Repeat("\n", 39), "3:abc\n", swapped, true},
		{"one and 40 empty lines", "swap\n" + strings.Repeat("\n", 40), "", impl.Desk{}, false},
		{"20 lines, an empty one behind each", strings.Repeat("paschs\n\n", 20), strings.Repeat("7\n", 20), d, true},
		{"20 lines, an empty one behind each, and one more", strings.Repeat("paschs\n\n", 20) + "\n", "", impl.Desk{}, false},
		{"a thousand lines", strings.Repeat("x\n", 1000), "", impl.Desk{}, false},
	} {
		t.Run(c.what, func(t *testing.T) { wantText(t, c.text, c.output, c.desk, c.ok) })
	}
}

// randomText returns a text of some lines, good ones and others, empty ones among them.
func randomText(t *testing.T, random *randomNumbers) string {
	t.Helper()
	d, text := newDesk(t), ""
	names := commandNames()
	for range random.below(44) {
		line := ""
		if random.below(8) > 0 {
			lines := linesFor(names[random.below(len(names))], d, random)
			line = lines[random.below(len(lines))]
		}
		if line != "" && random.below(8) == 0 {
			damaged := damagedLines(line)
			line = strings.ReplaceAll(damaged[random.below(len(damaged))], "\n", "|")
		}
		if line != "" {
			d, _ = plainLine(t, d, line)
		}
		text += line + "\n"
	}
	if random.below(3) == 0 {
		text = strings.TrimSuffix(text, "\n")
	}
	return text
}

func TestConsoleTexts(t *testing.T) {
	var group sync.WaitGroup
	var lock sync.Mutex
	most, refused := 0, 0
	for i := range 160 {
		group.Go(func() {
			random := randomNumbers(2000 + i)
			text := randomText(t, &random)
			want, d, ok := plainConsole(t, text)
			wantText(t, text, want, d, ok)
			lock.Lock()
			defer lock.Unlock()
			most = max(most, strings.Count(want, "\n"))
			if !ok {
				refused++
			}
		})
	}
	group.Wait()
	if most < 30 || refused < 2 {
		t.Errorf("samples: at most %d outputs, %d texts refused", most, refused)
	}
}

// callsOfConsole calls all functions of the chapter.
func callsOfConsole(d impl.Desk) {
	impl.NewDesk()
	impl.IsDesk(d)
	for _, command := range commandNames() {
		impl.RunLine(d, command)
		impl.RunLine(d, command+" 0")
		impl.RunLine(d, command+" 0 1")
		impl.RunLine(d, command+" 0 1 2")
	}
	text := strings.Join(commandNames()[:impl.MaxLines], "\n")
	impl.Console(text)
	impl.DeskAfter(text)
}

// TestConsoleAgain calls functions twice, with the first results overwritten: nothing is kept.
func TestConsoleAgain(t *testing.T) {
	d := newDesk(t)
	for range 2 {
		wantDesk(t, "NewDesk again", impl.NewDesk(), d)
		for _, line := range []string{"show", "swap", "keep", "reset", "name affine", "fly", "cyclic 13 0", "at 9 3", "complete", "pasch 3"} {
			next, output := plainLine(t, d, line)
			wantLine(t, d, line, next, output)
		}
		wantText(t, "swap\nkeep\nlook", "3:abc\n3:abc\n3:abc\n", deskOf(t, "3:abc", "3:abc"), true)
		wantText(t, "swap", "3:abc\n", deskOf(t, "3:abc", namedTexts()["fano"]), true)
		wantText(t, "show", namedTexts()["fano"]+"\n", d, true)
	}
}

// TestConsoleLeavesNothing checks that no goroutine goes on behind the calls.
func TestConsoleLeavesNothing(t *testing.T) {
	before := runtime.NumGoroutine()
	for _, d := range []impl.Desk{newDesk(t), deskOf(t, "9:", "9:abc"), deskOf(t, namedTexts()["projective15"], "15:"), {}} {
		for range 3 {
			callsOfConsole(d)
		}
	}
	wantNoGoroutines(t, before)
}

// TestConsoleAtOnce carries out lines on the same desk from several sides at once: nothing is kept, and
// nothing is written to an argument.
func TestConsoleAtOnce(t *testing.T) {
	plain := deskOf(t, namedTexts()["affine"], "9:abc")
	d, guard := guardDesk(plain)
	text := "name affine\nkeep\ncount\nturn 1\ncommon\nnumbers\nswap\nshow\nfly\n"
	want, after, _ := plainConsole(t, text)
	var group sync.WaitGroup
	for range 8 {
		group.Go(func() {
			for _, line := range []string{"swap", "keep", "count", "numbers", "take 3", "renumber 8 7 6 5 4 3 2 1 0", "blocks", "fly", "reset", "difference", "fixing"} {
				next, output := impl.RunLine(d, line)
				wantNext, wantOutput := plainLine(t, plain, line)
				wantValue(t, line+" at once", output, impl.ErrNone, wantOutput, impl.ErrNone)
				wantDesk(t, line+" at once", next, wantNext)
			}
			wantText(t, text, want, after, true)
		})
	}
	group.Wait()
	guard.check(t, "the console at once")
}
