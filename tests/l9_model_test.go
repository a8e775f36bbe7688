package tests

import (
	"fmt"
	"regexp"
	"slices"
	"strings"
	"testing"

	"loop.example/custumal/impl"
)

// plainDesk is what a script has come to, told anew from the document's words: its base is told anew from its log each time that something is done or undone.
type plainDesk struct {
	log   [][]impl.Act
	base  impl.Base
	begun bool
	held  []impl.Act
}

var plainNumber = regexp.MustCompile(`^(0|-?[1-9][0-9]{0,16})$`)

// ended is the word of a code.
func ended(code int) string {
	return strings.Fields("fine form need once full none held link used")[code]
}

func wordsOf(line string) []string {
	return strings.FieldsFunc(line, func(r rune) bool { return r == ' ' })
}

func (d *plainDesk) turn(log [][]impl.Act) {
	b, ok := impl.LogAt(log, len(log))
	if !ok {
		panic("a desk's log is not ok")
	}
	d.log, d.base = log, b
}

func (d *plainDesk) do(acts []impl.Act) string {
	next, code := impl.LogDo(d.log, acts)
	if code == impl.TabFine {
		d.turn(next)
	}
	return ended(code)
}

// line does a line with words.
func (d *plainDesk) line(words []string) string {
	if a, ok := impl.ActRead(strings.Join(words, " ")); ok && len(words) > 1 {
		if !d.begun {
			return d.do([]impl.Act{a})
		}
		if len(d.held) == 6 {
			return "full"
		}
		d.held = append(d.held, a)
		return "held"
	}
	if len(words) == 1 {
		return d.word(words[0])
	}
	lines, ok := d.ask(words)
	if !ok {
		return "what"
	}
	return strings.Join(append(lines, "end"), "\n")
}

// word does a line of one word.
func (d *plainDesk) word(word string) string {
	begun, held, n := d.begun, d.held, len(d.log)
	switch {
	case word == "begin" && !begun:
		d.begun = true
	case word == "abort" && begun:
		d.begun, d.held = false, nil
	case word == "commit" && begun:
		d.begun, d.held = false, nil
		return d.do(held)
	case word == "undo" && !begun && n > 0:
		d.turn(impl.LogCut(d.log, n-1))
	case word == "log":
		return impl.LogText(d.log) + "end"
	default:
		return "what"
	}
	return "fine"
}

// ask is what lines of a table are answered with, but the last.
func (d *plainDesk) ask(words []string) ([]string, bool) {
	at := slices.IndexFunc(d.base.Tabs, func(x impl.Tab) bool { return x.Name == words[1] })
	if at < 0 {
		return nil, false
	}
	x := d.base.Tabs[at].Table
	var lines []string
	switch kind := fmt.Sprint(words[0], " ", len(words)); kind {
	case "shape 2":
		for _, c := range impl.TableShape(x) {
			lines = append(lines, strings.TrimPrefix(impl.ActText(tableAct("x", c)), "table x "))
		}
	case "rows 2":
		for _, r := range x.Rows {
			line := fmt.Sprint(r.Id)
			vals, _ := impl.TableRow(x, r.Id)
			for _, v := range vals {
				line += " " + impl.ValText(v)
			}
			lines = append(lines, line)
		}
	case "find 4":
		v, ok := impl.ValRead(words[3])
		if !ok {
			return nil, false
		}
		for _, id := range impl.TableFind(x, words[2], v) {
			lines = append(lines, fmt.Sprint(id))
		}
	case "doomed 3":
		id := 0
		if _, err := fmt.Sscan(words[2], &id); err != nil || !plainNumber.MatchString(words[2]) {
			return nil, false
		}
		for _, r := range impl.BaseDoomed(d.base, words[1], id) {
			lines = append(lines, fmt.Sprint(r.Name, " ", r.Id))
		}
	default:
		return nil, false
	}
	return lines, true
}

// plainRun runs a script, and tells what was answered ahead of each line and behind all, and the plain desk behind all.
func plainRun(script string) ([]string, *plainDesk) {
	d := &plainDesk{}
	if len(script) > 20000 {
		return []string{"long\n"}, d
	}
	outs := []string{""}
	out, full := "", false
	for ahead, line := range strings.Split(script, "\n") {
		words := wordsOf(line)
		switch {
		case len(words) == 0 || full:
		case ahead >= 200 || len(out) > 20000:
			out, full = out+"full\n", true
		default:
			out += d.line(words) + "\n"
		}
		outs = append(outs, out)
	}
	return outs, d
}

// checkRun holds what a script answers against the document's words.
func checkRun(t *testing.T, script string) string {
	t.Helper()
	got := impl.DeskRun(script)
	outs, _ := plainRun(script)
	if want := outs[len(outs)-1]; got != want {
		t.Fatalf("DeskRun(%q) is %q, not %q", script, got, want)
	}
	return got
}

// checkCuts cuts a script that is not too long at each of its lines, with the newline there and without: what the first lines answer stands ahead of all.
func checkCuts(t *testing.T, script string) string {
	t.Helper()
	all := checkRun(t, script)
	outs, _ := plainRun(script)
	line := 0
	for at := range len(script) {
		if script[at] != '\n' {
			continue
		}
		line++
		first, with := impl.DeskRun(script[:at]), impl.DeskRun(script[:at+1])
		if first != outs[line] || with != first {
			t.Fatalf("DeskRun(%q) is %q, and %q with a newline behind, not %q", script[:at], first, with, outs[line])
		}
		if !strings.HasPrefix(all, first) {
			t.Fatalf("DeskRun(%q) is %q, which is not ahead in %q, the answer to %q", script[:at], first, all, script)
		}
	}
	return all
}

// behind is what is answered to more lines behind others.
func behind(t *testing.T, first string, more string) string {
	t.Helper()
	ahead, all := impl.DeskRun(first), checkRun(t, first+more)
	rest, ok := strings.CutPrefix(all, ahead)
	if !ok {
		t.Fatalf("DeskRun(%q) is %q, which is not ahead in %q, the answer with %q behind", first, ahead, all, more)
	}
	return rest
}

// scriptOf is lines that do a log.
func scriptOf(log [][]impl.Act) string {
	script := ""
	for _, acts := range log {
		script += "begin\n"
		for _, a := range acts {
			script += impl.ActText(a) + "\n"
		}
		script += "commit\n"
	}
	return script
}

// deskBeginnings are first lines of scripts; behind some of them many things can be done, and behind some next to nothing.
func deskBeginnings() []string {
	return []string{
		"",
		"table t k:num m:num\ntable u k:num! m:num^\nlink u k t gone\nput t\nput t\nput u k=1 m=1\n",
		"begin\ntable t k:num m:num\ntable u k:num\nlink t m t none\nlink u k t stop\nput t\nput t m=1\ncommit\nput u k=1\n",
		"table t a:num! b:text^='x'\n",
		scriptOf(longLog()),
	}
}

// deskLines are lines of all kinds, most of which can be done at times.
func deskLines() []string {
	list := []string{"", " ", "begin", "begin", "commit", "commit", "abort", "undo", "undo", "log", "log ", " begin  ", "begin x", "undo 1", "fly", "put", "t", "put t a=01", "shape t", "shape u", "shape", "shape v w", "rows t", "rows t", "rows u", "rows v", "rows", "rows t u", "table t", "set t 01", "LOG", "log\t", "rows\u00a0t", "\xff"}
	for _, name := range []string{"t", "u", "v", "zzzz"} {
		for id := range 5 {
			list = append(list, fmt.Sprint("doomed ", name, " ", id), fmt.Sprint("off ", name, " ", id), fmt.Sprint("find ", name, " k ", id), fmt.Sprintf("find %s s '%d'", name, id), fmt.Sprint("set ", name, " ", id, " k=", id/2))
		}
		list = append(list, "put "+name, "put  "+name+" k=1", "put "+name+" k=2", "put "+name+" k=none", "doomed "+name+" -1", "doomed "+name+" 07", "find "+name+" m none", "find "+name+" k", "find "+name+" k x", "find "+name+" k 01")
	}
	for _, a := range someActs() {
		list = append(list, impl.ActText(a))
	}
	return list
}

// oftenLines are lines that can be done at most times.
func oftenLines() []string {
	return []string{"put t", "put u k=1", "set t 1", "set t 1 m=1", "set t 2", "rows t", "begin", "commit", "undo"}
}

// pickLines are lines told by a number, the same ones for the same number; each third is one of oftenLines.
func pickLines(start int, n int, lines []string) string {
	often := oftenLines()
	pick := uint32(start)
	next := func(n int) int {
		pick = pick*1664525 + 1013904223
		return int(pick>>8) % n
	}
	script := ""
	for range n {
		from := lines
		if next(3) == 0 {
			from = often
		}
		script += from[next(len(from))] + "\n"
	}
	return script
}

func walkLines(start int, n int) string { return pickLines(start, n, deskLines()) }

// Promise 12: long walks, cut at each line.
func TestPromise12LongWalks(t *testing.T) {
	t.Parallel()
	seen := map[string]int{}
	for i, first := range deskBeginnings() {
		for start := range 20 {
			all := checkCuts(t, first+walkLines(100*i+start, 60))
			for _, line := range strings.Split(all, "\n") {
				seen[line]++
			}
		}
	}
	for _, word := range strings.Fields("fine form need once full none held link used what end 1 2 3") {
		if seen[word] == 0 {
			t.Errorf("no walk came to the answer %s", word)
		}
	}
}

// Promise 12: the others answer what they would behind any lines that come to the same, and these need not be the same lines: here those are cut to the log that they came to, which is done anew.
func TestPromise12LinesBehindALog(t *testing.T) {
	t.Parallel()
	seen := map[int]int{}
	for i, first := range deskBeginnings() {
		for start := range 25 {
			first := first + walkLines(7000+100*i+start, 30)
			_, d := plainRun(first)
			short := scriptOf(d.log)
			if d.begun {
				short += "begin\n"
			}
			for _, a := range d.held {
				short += impl.ActText(a) + "\n"
			}
			seen[len(d.log)]++
			more := "log\nrows t\nrows u\n" + walkLines(9000+100*i+start, 15)
			// Neither may come to the bounds of all lines.
			if strings.Count(first+short+more, "\n") > 200 {
				continue
			}
			if a, b := behind(t, first, more), behind(t, short, more); a != b {
				t.Fatalf("%q answers %q behind %q, and %q behind %q", more, a, first, b, short)
			}
		}
	}
	if len(seen) < 8 {
		t.Errorf("the walks came to logs of just so many times: %v", seen)
	}
}

// detours are lines that do something or hold it, each with all that is done by them undone or aborted behind them.
func detours(t *testing.T, first string, start int) []string {
	t.Helper()
	done := func(script string) int {
		_, d := plainRun(first + script)
		return len(d.log)
	}
	was := done("")
	// Without undo, which could reach further back than these lines.
	lines := append(oftenLines(), "table v k:num", "put t m=2", "put t k=1 m=1", "set u 1 k=2", "off t 1", "off t 2", "add t z:num=3", "drop t m", "name t m n", "abort", "log", "fly")
	walk := strings.ReplaceAll(pickLines(start, 16, lines), "undo\n", "")
	_, d := plainRun(first + walk)
	if d.begun {
		walk += "abort\n"
	}
	held := strings.NewReplacer("begin\n", "", "commit\n", "", "abort\n", "").Replace(walk)
	return []string{
		walk + strings.Repeat("undo\n", done(walk)-was),
		"begin\n" + held + "abort\n",
		"begin\n" + held + "commit\n" + strings.Repeat("undo\n", done("begin\n"+held+"commit\n")-was),
	}
}

// Promise 12: what is undone, aborted, or could not be done is as if it had never been done: whatever stands behind it answers the same as without.
func TestPromise12Undone(t *testing.T) {
	t.Parallel()
	undone, most := 0, 0
	for i, first := range deskBeginnings() {
		for start := range 20 {
			first := first + walkLines(100*i+start, 12)
			if _, d := plainRun(first); d.begun {
				first += "commit\n"
			}
			more := "log\nrows t\nrows u\nshape t\n" + walkLines(5000+100*i+start, 20)
			want := behind(t, first, more)
			for _, lines := range detours(t, first, 3000+100*i+start) {
				n := strings.Count(lines, "undo\n")
				undone, most = undone+n, max(most, n)
				if got := behind(t, first+lines, more); got != want {
					t.Fatalf("behind %q the lines %q answer %q, and %q with %q between", first, more, want, got, lines)
				}
			}
		}
	}
	if undone < 200 || most < 6 {
		t.Errorf("just %d times were undone, and at most %d at once", undone, most)
	}
}

// Promise 12: as many undos as there were times come to what was there behind each of them, and at last to nothing.
func TestPromise12UndoneOneByOne(t *testing.T) {
	t.Parallel()
	ask := "log\nrows t\nrows u\nrows v\nshape t\nshape u\nshape v\ndoomed t 1\n"
	log := longLog()
	var answers []string
	for n := range len(log) + 1 {
		answers = append(answers, behind(t, scriptOf(log[:n]), ask))
	}
	script := scriptOf(log)
	for n := len(log); n >= 0; n-- {
		if got := behind(t, script, ask); got != answers[n] {
			t.Errorf("behind undos %q is answered where %d times are left, and %q was ahead of them", got, n, answers[n])
		}
		want := "fine\n"
		if n == 0 {
			want = "what\n"
		}
		if got := behind(t, script, "undo\n"); got != want {
			t.Errorf("undo of %d times answers %q", n, got)
		}
		// What was undone can be done again, and comes to the same.
		if got := behind(t, script+scriptOf(log[n:]), ask); got != answers[len(log)] {
			t.Errorf("behind all done again from the time %d on %q is answered, not %q", n, got, answers[len(log)])
		}
		script += "undo\n"
	}
}

// Promise 12: each three lines of a few kinds, behind some that do something.
func TestPromise12EachFewLines(t *testing.T) {
	t.Parallel()
	lines := []string{"begin\n", "commit\n", "abort\n", "undo\n", "log\n", "put t a=2\n", "put t\n", "rows t\n", "what\n"}
	for _, first := range []string{"", "table t a:num!\n", "table t a:num!\nbegin\nput t a=1\n"} {
		for _, a := range lines {
			for _, b := range lines {
				for _, c := range lines {
					checkRun(t, first+a+b+c+"log\nrows t\ncommit\nlog")
				}
			}
		}
	}
}
