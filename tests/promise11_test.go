package tests

import (
	"slices"
	"strings"
	"sync"
	"testing"

	"loop.example/g01355/impl"
)

// Promise 11: lines lead from desks to desks, and the console joins their outputs. The guarantee adds that
// a line with the output error changes nothing. These tests use the program's own results only; the tests of
// the functions compare them with what is worked out apart.

// runLine carries out a line, and checks that it leads from a desk to a desk, which stays if the output is
// error or if the line only asks.
func runLine(t *testing.T, d impl.Desk, line string) (impl.Desk, string) {
	t.Helper()
	next, output := impl.RunLine(d, line)
	if !impl.IsDesk(d) || !impl.IsDesk(next) {
		t.Errorf("RunLine(%v, %q) leads to %v", d, line, next)
	}
	if output == "" || strings.Contains(output, "\n") {
		t.Errorf("RunLine(%v, %q) has the output %q", d, line, output)
	}
	command, _, _ := strings.Cut(line, " ")
	if (output == wrong || !changesDesk(command)) && !sameDesk(next, d) {
		t.Errorf("RunLine(%v, %q) = %v, %q", d, line, next, output)
	}
	return next, output
}

// checkShown checks that `show` and `look` put out the systems of a desk, as texts that lead back to them.
func checkShown(t *testing.T, d impl.Desk) {
	t.Helper()
	for line, want := range map[string]impl.System{"show": d.First, "look": d.Second} {
		_, output := runLine(t, d, line)
		text, code := impl.SystemText(want)
		wantValue(t, "the output of "+line, output, code, text, impl.ErrNone)
		next, again := runLine(t, d, "system "+output)
		wantValue(t, "the output of the system that is shown", again, code, output, impl.ErrNone)
		wantSystem(t, "the system that is shown", next.First, code, want, impl.ErrNone)
		wantSystem(t, "the other system", next.Second, code, d.Second, impl.ErrNone)
	}
}

func TestPromise11Desks(t *testing.T) {
	var group sync.WaitGroup
	for i, d := range sampleDesks(t) {
		group.Go(func() {
			random := randomNumbers(3000 + i)
			checkShown(t, d)
			for _, command := range commandNames() {
				for _, line := range linesFor(command, d, &random) {
					next, output := runLine(t, d, line)
					checkChanged(t, d, next, command, output)
					damaged := damagedLines(line)
					runLine(t, d, damaged[random.below(len(damaged))])
				}
			}
		})
	}
	group.Wait()
}

// checkChanged checks what a line has changed: lines that change a system put it out, and leave the other
// one; `swap` leaves both.
func checkChanged(t *testing.T, d, next impl.Desk, command, output string) {
	t.Helper()
	_, shown := impl.RunLine(next, "show")
	switch {
	case output == wrong || !changesDesk(command):
		return
	case command == "reset":
		if !sameDesk(next, impl.NewDesk()) || output != "ok" {
			t.Errorf("reset leads to %v, with the output %q", next, output)
		}
		return
	case command == "swap":
		wantSystem(t, "the second system behind swap", next.Second, impl.ErrNone, d.First, impl.ErrNone)
		wantSystem(t, "the first system behind swap", next.First, impl.ErrNone, d.Second, impl.ErrNone)
	case command == "keep":
		wantSystem(t, "the second system behind keep", next.Second, impl.ErrNone, d.First, impl.ErrNone)
		wantSystem(t, "the first system behind keep", next.First, impl.ErrNone, d.First, impl.ErrNone)
	default:
		wantSystem(t, "the second system behind "+command, next.Second, impl.ErrNone, d.Second, impl.ErrNone)
	}
	wantValue(t, "what is shown behind "+command, shown, impl.ErrNone, output, impl.ErrNone)
}

// checkJoined carries out the lines of a text, one after the other, and compares what they lead to with the
// console and with the desk after the text.
func checkJoined(t *testing.T, text string) {
	t.Helper()
	lines := strings.Split(strings.TrimSuffix(text, "\n"), "\n")
	d, outputs := impl.NewDesk(), ""
	for _, line := range lines {
		if line != "" {
			var output string
			d, output = runLine(t, d, line)
			outputs += output + "\n"
		}
	}
	ok := len(text) <= impl.MaxConsole && len(lines) <= impl.MaxLines
	if !ok {
		d, outputs = impl.Desk{}, ""
	}
	if got := impl.Console(text); got != outputs {
		t.Errorf("Console(%q) = %q; its lines have the outputs %q", text, got, outputs)
	}
	after, gotOK := impl.DeskAfter(text)
	if gotOK != ok || !sameDesk(after, d) {
		t.Errorf("DeskAfter(%q) = %v, %v; its lines lead to %v", text, after, gotOK, d)
	}
}

func TestPromise11Joined(t *testing.T) {
	var group sync.WaitGroup
	for i := range 120 {
		group.Go(func() {
			random := randomNumbers(4000 + i)
			checkJoined(t, randomText(t, &random))
		})
	}
	group.Wait()
	for _, text := range []string{"", "\n", "\n\n\nshow", "show\n\n\n", " ", "fly", strings.Repeat("\n", 40), strings.Repeat("\n", 41), strings.Repeat("swap\n", 39), strings.Repeat("swap\n", 41)} {
		checkJoined(t, text)
	}
}

// TestPromise11Parts takes texts apart at each line: the console puts out the lines of both parts, the
// second one beginning on the desk after the first one.
func TestPromise11Parts(t *testing.T) {
	var group sync.WaitGroup
	for i := range 16 {
		group.Go(func() {
			random := randomNumbers(5000 + i)
			lines := strings.SplitAfter(randomText(t, &random), "\n")
			whole := impl.Console(strings.Join(lines, ""))
			if _, ok := impl.DeskAfter(strings.Join(lines, "")); !ok {
				return
			}
			for n := range lines {
				begin := strings.Join(lines[:n], "")
				d, ok := impl.DeskAfter(begin)
				if !ok || !impl.IsDesk(d) {
					t.Errorf("DeskAfter(%q) = %v, %v", begin, d, ok)
				}
				outputs := impl.Console(begin)
				for _, line := range lines[n:] {
					if line = strings.TrimSuffix(line, "\n"); line != "" {
						var output string
						d, output = runLine(t, d, line)
						outputs += output + "\n"
					}
				}
				wantValue(t, "the outputs of both parts", outputs, impl.ErrNone, whole, impl.ErrNone)
			}
		})
	}
	group.Wait()
}

// runLines carries out lines that must not be wrong, and returns the desk after them and their outputs.
func runLines(t *testing.T, d impl.Desk, lines ...string) (impl.Desk, []string) {
	t.Helper()
	var outputs []string
	for _, line := range lines {
		next, output := runLine(t, d, line)
		if output == wrong {
			t.Errorf("RunLine(%v, %q) is wrong", d, line)
		}
		d, outputs = next, append(outputs, output)
	}
	return d, outputs
}

// TestPromise11Back has lines that lead back: what is exchanged twice, turned on and back, or put in and
// taken out, is as it was.
func TestPromise11Back(t *testing.T) {
	random := randomNumbers(114)
	for _, d := range sampleDesks(t) {
		x := d.First
		p := random.order(int(x.Points))
		k := int64(random.below(int(x.Points)))
		for _, lines := range [][]string{
			{"swap", "swap"},
			{"turn " + plainOutput(k), "turn " + plainOutput((x.Points-k)%x.Points)},
			{"renumber " + joinedNumbers(p), "renumber " + joinedNumbers(inverseOf(p))},
		} {
			after, _ := runLines(t, d, lines...)
			if !sameDesk(after, d) {
				t.Errorf("%q on %v leads to %v", lines, d, after)
			}
		}
		for i, b := range x.Blocks {
			if i%7 == 0 {
				after, _ := runLines(t, d, "take "+plainOutput(i), "put "+plainOutput([]impl.Block{b}))
				if !sameDesk(after, d) {
					t.Errorf("block %d out of %v, and in again, leads to %v", i, d, after)
				}
			}
		}
	}
}

// TestPromise11Trades carries out trades: the difference to the system that was kept is the trade the other
// way round.
func TestPromise11Trades(t *testing.T) {
	random := randomNumbers(115)
	for _, x := range slices.Concat(fullSystems(7), kindsOfFulls(t)[2:8]) {
		d := impl.Desk{First: x, Second: impl.NewDesk().Second}
		for range 4 {
			p := random.order(int(x.Points))
			if c, _ := impl.ThirdPoint(x, p[0], p[1]); c == p[2] {
				continue
			}
			points := joinedNumbers(p[:3])
			_, outputs := runLines(t, d, "cycle "+points, "keep", "switch "+points, "difference", "swap", "difference", "full")
			out, in, _ := strings.Cut(outputs[0], ">")
			wantValue(t, "the difference behind switch", outputs[3], impl.ErrNone, in+">"+out, impl.ErrNone)
			wantValue(t, "the difference, exchanged", outputs[5], impl.ErrNone, outputs[0], impl.ErrNone)
			wantValue(t, "what is kept", outputs[4], impl.ErrNone, outputs[1], impl.ErrNone)
			wantValue(t, "full", outputs[6], impl.ErrNone, "yes", impl.ErrNone)
		}
	}
}
