package tests

import (
	"fmt"
	"maps"
	"regexp"
	"slices"
	"strconv"
	"strings"
	"sync"
	"testing"

	"loop.example/g01355/impl"
)

// wrong is the output of a line that is none, or that a function refuses.
const wrong = "error"

// formsOfLines has the words that stand behind each command, as the chapter's table has them.
func formsOfLines() map[string]string {
	forms := map[string]string{}
	for _, line := range []string{
		"system TEXT", "name TEXT", "put TEXT", "take I", "renumber N..", "swap", "keep", "threefold V", "double",
		"product", "cyclic V I", "switch A B P", "pasch I", "fill", "complete", "at V I", "turn K", "show", "look",
		"full", "third A B", "left", "free", "common", "paschs", "cycle A B P", "difference", "same", "count",
		"points", "blocks", "around", "stuck", "fixes", "completions", "fixing", "number", "numbers", "apart",
		"mate", "reset",
	} {
		command, form, _ := strings.Cut(line, " ")
		forms[command] = form
	}
	return forms
}

// commandNames returns all commands, in the same order in each run.
func commandNames() []string {
	return slices.Sorted(maps.Keys(formsOfLines()))
}

// changesDesk reports whether lines with a command may change the desk.
func changesDesk(command string) bool {
	return slices.Contains(strings.Fields("system name put take renumber swap keep threefold double product cyclic switch pasch fill complete at turn reset"), command)
}

// patternOf returns what a line with a command looks like: each word has one blank in front of it.
func patternOf(command, form string) *regexp.Regexp {
	number := " (?:0|[1-9][0-9]{0,8})"
	words := strings.Repeat(number, len(strings.Fields(form)))
	switch form {
	case "TEXT":
		words = " [^ ]*"
	case "N..":
		words = "(?:" + number + ")*"
	}
	return regexp.MustCompile(`(?s)\A` + command + words + `\z`)
}

// linePatterns has what the lines with each command look like, as it takes long to make that.
var linePatterns = sync.OnceValue(func() map[string]*regexp.Regexp {
	table := map[string]*regexp.Regexp{}
	for command, form := range formsOfLines() {
		table[command] = patternOf(command, form)
	}
	return table
})

// plainWords takes a line apart that looks as one of the table does: into the command, what is behind it,
// and the numbers there, if these are numbers.
func plainWords(line string) (command, rest string, numbers []int64, ok bool) {
	command, rest, _ = strings.Cut(line, " ")
	pattern := linePatterns()[command]
	if pattern == nil || !pattern.MatchString(line) {
		return "", "", nil, false
	}
	for _, word := range regexp.MustCompile("[0-9]+").FindAllString(rest, -1) {
		n, _ := strconv.ParseInt(word, 10, 64)
		numbers = append(numbers, n)
	}
	return command, rest, numbers, true
}

// plainPut puts the block of three letters in.
func plainPut(x impl.System, letters string) (impl.System, int64) {
	if !regexp.MustCompile(`\A[a-o]{3}\z`).MatchString(letters) || letters[0] >= letters[1] || letters[1] >= letters[2] {
		return impl.System{}, impl.ErrSyntax
	}
	return impl.PutBlock(x, impl.Block{int64(letters[0]) - 'a', int64(letters[1]) - 'a', int64(letters[2]) - 'a'})
}

func plainCyclic(v, i int64) (impl.System, int64) {
	families, _ := impl.DifferenceFamilies(v)
	for k, family := range families {
		if int64(k) == i {
			return impl.CyclicSystem(v, family)
		}
	}
	return impl.System{}, impl.ErrNotFound
}

func plainPaschLine(x impl.System, i int64) (impl.System, int64) {
	trades, _ := impl.PaschTrades(x)
	for k, change := range trades {
		if int64(k) == i {
			return impl.CarryOut(x, change)
		}
	}
	return impl.System{}, impl.ErrNotFound
}

// madeOn returns the system that a line puts in the place of the first one, by the functions of the other
// chapters, which have tests of their own.
func madeOn(d impl.Desk, command, text string, n []int64) (impl.System, int64) {
	x, y := d.First, d.Second
	switch command {
	case "system":
		return impl.ParseSystem(text)
	case "name":
		return impl.NamedSystem(text)
	case "put":
		return plainPut(x, text)
	case "take":
		return impl.TakeBlock(x, n[0])
	case "renumber":
		return impl.RenumberSystem(x, n)
	case "threefold":
		square, _ := impl.SquareOf(n[0])
		return impl.ThreefoldSystem(square)
	case "double":
		return impl.DoubleSystem(x)
	case "product":
		return impl.ProductSystem(x, y)
	case "cyclic":
		return plainCyclic(n[0], n[1])
	case "switch":
		change, _ := impl.CycleTrade(x, n[0], n[1], n[2])
		return impl.CarryOut(x, change)
	case "pasch":
		return plainPaschLine(x, n[0])
	case "fill":
		return impl.FillSystem(x)
	case "complete":
		return impl.FirstCompletion(x)
	case "at":
		return impl.SystemAt(n[0], n[1])
	case "turn":
		return impl.TurnSystem(x, n[0])
	}
	panic("no line that makes a system: " + command)
}

// askedOn returns what a line asks for, by the functions of the other chapters.
func askedOn(d impl.Desk, command string, n []int64) (any, int64) {
	x, y := d.First, d.Second
	switch command {
	case "show":
		return x, impl.ErrNone
	case "look":
		return y, impl.ErrNone
	case "full":
		return impl.IsFull(x)
	case "third":
		return impl.ThirdPoint(x, n[0], n[1])
	case "left":
		return impl.PairsLeft(x)
	case "free":
		return impl.FreeBlocks(x)
	case "common":
		return impl.CommonBlocks(x, y)
	case "paschs":
		return impl.CountPasch(x)
	case "cycle":
		return impl.CycleTrade(x, n[0], n[1], n[2])
	case "difference":
		return impl.DifferenceTrade(x, y)
	case "same":
		return impl.AreIsomorphic(x, y)
	case "apart":
		return impl.AreApart(x, y)
	}
	return askedOfFirst(x, command)
}

func askedOfFirst(x impl.System, command string) (any, int64) {
	switch command {
	case "count":
		return impl.CountAutomorphisms(x)
	case "points":
		return impl.PointOrbits(x)
	case "blocks":
		return impl.BlockOrbits(x)
	case "around":
		return impl.GoesAround(x)
	case "stuck":
		return impl.IsStuck(x)
	case "fixes":
		return impl.Fixes(x)
	case "completions":
		return impl.CountCompletions(x)
	case "fixing":
		return impl.LeastFixing(x)
	case "number":
		return impl.NumberOfSystem(x)
	case "numbers":
		return impl.CommonNumbers(x)
	case "mate":
		return impl.MateByTurning(x)
	}
	panic("no line that asks: " + command)
}

// plainOutput writes what a line puts out.
func plainOutput(value any) string {
	var texts []string
	mark := ";"
	switch v := value.(type) {
	case impl.System:
		return fmt.Sprintf("%d:%s", v.Points, strings.TrimPrefix(plainOutput(v.Blocks), "none"))
	case impl.Trade:
		return plainOutput(v.Out) + ">" + plainOutput(v.In)
	case bool:
		return map[bool]string{true: "yes", false: "no"}[v]
	case []int64:
		texts, mark = append(texts, strings.Fields(strings.Trim(fmt.Sprint(v), "[]"))...), " "
	case [][]int64:
		for _, list := range v {
			texts = append(texts, plainOutput(list))
		}
	case []impl.Block:
		mark = ","
		for _, b := range v {
			texts = append(texts, fmt.Sprintf("%c%c%c", 'a'+b[0], 'a'+b[1], 'a'+b[2]))
		}
	default:
		return fmt.Sprint(v)
	}
	if len(texts) == 0 {
		return "none"
	}
	return strings.Join(texts, mark)
}

// newDesk returns the new desk, worked out apart from the program.
func newDesk(t *testing.T) impl.Desk {
	t.Helper()
	return impl.Desk{First: named(t, "fano"), Second: named(t, "single")}
}

// plainLine returns what a line does on a desk: the desk after it, and the output.
func plainLine(t *testing.T, d impl.Desk, line string) (impl.Desk, string) {
	t.Helper()
	command, rest, n, ok := plainWords(line)
	switch {
	case !ok:
		return d, wrong
	case command == "reset":
		return newDesk(t), "ok"
	case command == "swap":
		return impl.Desk{First: d.Second, Second: d.First}, plainOutput(d.Second)
	case command == "keep":
		return impl.Desk{First: d.First, Second: d.First}, plainOutput(d.First)
	case !changesDesk(command):
		value, code := askedOn(d, command, n)
		if code != impl.ErrNone {
			return d, wrong
		}
		return d, plainOutput(value)
	}
	x, code := madeOn(d, command, rest, n)
	if code != impl.ErrNone {
		return d, wrong
	}
	return impl.Desk{First: x, Second: d.Second}, plainOutput(x)
}

// plainConsole returns the outputs of the lines of a text, and the desk after them, or false if the text
// is too long.
func plainConsole(t *testing.T, text string) (string, impl.Desk, bool) {
	t.Helper()
	lines := strings.Split(text, "\n")
	if lines[len(lines)-1] == "" {
		lines = lines[:len(lines)-1]
	}
	if len(text) > 4000 || len(lines) > 40 {
		return "", impl.Desk{}, false
	}
	d, outputs := newDesk(t), ""
	for _, line := range lines {
		if line != "" {
			var output string
			d, output = plainLine(t, d, line)
			outputs += output + "\n"
		}
	}
	return outputs, d, true
}

// deskOf returns the desk with the systems of two texts.
func deskOf(t *testing.T, first, second string) impl.Desk {
	t.Helper()
	return impl.Desk{First: system(t, first), Second: system(t, second)}
}

func sameDesk(d, e impl.Desk) bool {
	return sameSystem(d.First, e.First) && sameSystem(d.Second, e.Second)
}

// guardedDesk has copies of the blocks of both systems, with known values in their spare capacity.
type guardedDesk struct {
	first, second guarded[impl.Block]
}

func guardDesk(plain impl.Desk) (impl.Desk, guardedDesk) {
	x, first := guardSystem(plain.First)
	y, second := guardSystem(plain.Second)
	return impl.Desk{First: x, Second: y}, guardedDesk{first, second}
}

func (g guardedDesk) check(t *testing.T, what string) {
	t.Helper()
	g.first.check(t, what+" (First)")
	g.second.check(t, what+" (Second)")
}

// wantDesk checks a desk. Its systems are overwritten then, and must not share memory.
func wantDesk(t *testing.T, what string, got, want impl.Desk) {
	t.Helper()
	if !sameDesk(got, want) {
		t.Errorf("%s: the desk is %v; want %v", what, got, want)
	}
	checkSystemMemory(t, what, []impl.System{got.First, got.Second})
}

// wantLine checks the desk after a line and its output, and that the desk before it stays.
func wantLine(t *testing.T, plain impl.Desk, line string, want impl.Desk, wantOutput string) {
	t.Helper()
	d, guard := guardDesk(plain)
	next, output := impl.RunLine(d, line)
	what := fmt.Sprintf("RunLine(%v, %q)", plain, line)
	if output != wantOutput {
		t.Errorf("%s has the output %q; want %q", what, output, wantOutput)
	}
	wantDesk(t, what, next, want)
	guard.check(t, what)
}

// wantText checks the outputs of a text, and the desk after it; ok is false if the text is too long.
func wantText(t *testing.T, text, want string, desk impl.Desk, ok bool) {
	t.Helper()
	if got := impl.Console(text); got != want {
		t.Errorf("Console(%q) = %q; want %q", text, got, want)
	}
	got, gotOK := impl.DeskAfter(text)
	if gotOK != ok {
		t.Errorf("DeskAfter(%q) is %v; want %v", text, gotOK, ok)
	}
	wantDesk(t, fmt.Sprintf("DeskAfter(%q)", text), got, desk)
}

// sampleDesks returns desks with systems of all kinds: full and partial ones, stuck ones and such without
// blocks, of 13 and 15 points among them, beside equal ones, others with as many points, and any others.
func sampleDesks(t *testing.T) []impl.Desk {
	t.Helper()
	random := randomNumbers(111)
	list := slices.Concat(partials(), kindsOfFulls(t)[:8], similar(t, &random))
	for v := int64(3); v <= impl.MaxPoints; v++ {
		list = append(list, impl.System{Points: v}, impl.System{Points: v, Blocks: []impl.Block{{v - 3, v - 2, v - 1}}})
	}
	for _, x := range slices.Concat(kindsOfFulls(t)[:8], []impl.System{named(t, "cyclic15")}) {
		list = append(list, withoutSome(x, 1, &random), withoutSome(x, len(x.Blocks)/3, &random))
	}
	byPoints := map[int64][]impl.System{}
	for _, x := range list {
		byPoints[x.Points] = append(byPoints[x.Points], x)
	}
	desks := []impl.Desk{newDesk(t)}
	for i, x := range list {
		if i%3 == 0 || x.Points <= 3 {
			alike := byPoints[x.Points]
			desks = append(desks, impl.Desk{First: x, Second: alike[random.below(len(alike))]})
		}
		if i%9 == 1 {
			desks = append(desks, impl.Desk{First: x, Second: x}, impl.Desk{First: x, Second: list[random.below(len(list))]})
		}
		if exchanges := plainPaschTrades(x); i%5 == 2 && len(exchanges) > 0 {
			desks = append(desks, impl.Desk{First: x, Second: plainCarryOut(x, exchanges[random.below(len(exchanges))])})
		}
	}
	return desks
}

// joinedNumbers writes numbers with blanks between them.
func joinedNumbers(numbers []int64) string {
	return strings.Trim(fmt.Sprint(numbers), "[]")
}

// textsFor returns texts for the commands that have one, good ones and others.
func textsFor(command string, x impl.System, random *randomNumbers) []string {
	switch command {
	case "system":
		other := partials()[random.below(len(partials()))]
		bad := []string{"7:abd,", "7", ":", "", "16:", "07:", "7:abd,abe", "7:abh", "7:bda", "7:abd;acg"}
		return []string{plainOutput(x), plainOutput(other), bad[random.below(len(bad))]}
	case "name":
		names := slices.Sorted(maps.Keys(namedTexts()))
		bad := []string{"", "Fano", "fan", "fanoo", "cyclic", "cyclic7", "7:"}
		return []string{names[random.below(len(names))], bad[random.below(len(bad))]}
	}
	blocks := triples(impl.MaxPoints)
	if free := slices.DeleteFunc(triples(x.Points), func(b impl.Block) bool { return !fitsIn(x, b) }); len(free) > 0 {
		blocks = free
	}
	block := plainOutput([]impl.Block{blocks[random.below(len(blocks))]})
	other := plainOutput([]impl.Block{triples(impl.MaxPoints)[random.below(455)]})
	bad := []string{block[1:] + block[:1], block[:2], block + "o", strings.ToUpper(block), block[:2] + "p", "`" + block[1:], block[:1] + block[:2], ""}
	return []string{block, other, bad[random.below(len(bad))]}
}

// numbersFor returns numbers for a command that has some, good ones and others.
func numbersFor(command string, x impl.System, random *randomNumbers) []int64 {
	v, n := int(x.Points), len(x.Blocks)
	number := func(n int) int64 { return int64(random.below(n)) }
	switch command {
	case "take":
		return []int64{number(n + 1 + random.below(2))}
	case "renumber":
		list := random.order(v + random.below(7)/5 - random.below(7)/6)
		if random.below(6) == 0 {
			list[0] = list[len(list)-1]
		}
		return list
	case "threefold":
		return []int64{number(7)}
	case "cyclic":
		return []int64{[]int64{7, 13, 15, 15, 3, 9, 0, 14}[random.below(8)], number(4)}
	case "pasch":
		return []int64{number(len(plainPasch(x)) + 1 + random.below(2))}
	case "at":
		return []int64{[]int64{3, 7, 9, 9, 13, 15, 0}[random.below(7)], []int64{0, 1, 29, 30, 71, 839, 840, number(30)}[random.below(8)]}
	case "turn":
		return []int64{number(v + 1)}
	case "third":
		return []int64{number(v + random.below(2)), number(v + random.below(2))}
	}
	return []int64{number(v + random.below(2)), number(v + random.below(2)), number(v + random.below(2))}
}

// linesFor returns lines with a command, good ones and others that the command's functions refuse.
func linesFor(command string, d impl.Desk, random *randomNumbers) []string {
	var lines []string
	switch formsOfLines()[command] {
	case "":
		return []string{command}
	case "TEXT":
		for _, text := range textsFor(command, d.First, random) {
			lines = append(lines, command+" "+text)
		}
		return lines
	}
	for range 4 {
		lines = append(lines, command+" "+joinedNumbers(numbersFor(command, d.First, random)))
	}
	return lines
}

// damagedLines returns what differs a little from a line, and mostly is none.
func damagedLines(line string) []string {
	first, rest, _ := strings.Cut(line, " ")
	last := line[:max(strings.LastIndex(line, " "), 0)]
	return []string{
		" " + line, line + " ", line + "  ", first + "  " + rest, line + " 0", line + " abc", line + " " + line, last, first,
		first + " ", strings.ToUpper(line), strings.ToUpper(line[:1]) + line[1:], line + "\n", "\n" + line, line + "\r",
		line + "\t", line + "\x00", first + "\t" + rest, first + "\u00a0" + rest, first + rest, first + ": " + rest, line[1:],
		line[:len(line)-1], first + " 0" + rest, first + " +" + rest, first + " -" + rest, line + "0", line + "000000000",
		line + ".", line + ",", line + ";", strings.ReplaceAll(line, " ", ","), strings.ReplaceAll(line, " ", "\n"), first + "\n" + rest,
		first + " 000000000" + rest, first + " 1000000000" + rest, line + "s", strings.TrimSuffix(line, "s"), line + "e0", first + " 0x" + rest,
	}
}
