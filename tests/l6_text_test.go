package tests

import (
	"fmt"
	"slices"
	"strings"
	"testing"

	"loop.example/custumal/impl"
)

// plainRead is the log of a text, told anew from the document's words: whatever is read must be ok, and must have that text.
func plainRead(text string) ([][]impl.Act, bool) {
	var log [][]impl.Act
	var acts []impl.Act
	for _, line := range strings.Split(text, "\n") {
		if line == "." {
			log, acts = append(log, acts), nil
		} else if a, ok := impl.ActRead(line); ok {
			acts = append(acts, a)
		}
	}
	if _, ok := behindEach(log); !ok || plainText(log) != text {
		return nil, false
	}
	return log, true
}

// checkLogRead holds what is read from a text against the document's words, and says whether there is a log of it.
func checkLogRead(t *testing.T, s string) bool {
	t.Helper()
	want, can := plainRead(s)
	got, ok := impl.LogRead(s)
	if ok != can || logWhole(got) != logWhole(want) {
		t.Errorf("LogRead(%q) is %+v, %v, not %+v, %v", s, got, ok, want, can)
	}
	if ok && (!impl.LogOk(got) || impl.LogText(got) != s) {
		t.Errorf("LogRead(%q) is %+v, with the text %q", s, got, impl.LogText(got))
	}
	return can
}

// wantNoLogRead asks that a text is of no log.
func wantNoLogRead(t *testing.T, s string) {
	t.Helper()
	if got, ok := impl.LogRead(s); ok || len(got) != 0 {
		t.Errorf("LogRead(%q) is %+v, %v", s, got, ok)
	}
}

func TestLogTextPlain(t *testing.T) {
	for _, c := range []struct {
		log  [][]impl.Act
		text string
	}{
		{nil, ""},
		{[][]impl.Act{}, ""},
		{[][]impl.Act{{tableAct("t", numCol("a"))}}, "table t a:num\n.\n"},
		{[][]impl.Act{{tableAct("t", numCol("a")), putAct("t", is("a", num(-5)))}}, "table t a:num\nput t a=-5\n.\n"},
		{[][]impl.Act{{tableAct("t", numCol("a"))}, {putAct("t", is("a", num(-5)))}}, "table t a:num\n.\nput t a=-5\n.\n"},
		{
			[][]impl.Act{{tableAct("t", three()...), tableAct("u", numCol("k"))}, {linkAct("u", "k", "t", impl.HowNone), putAct("t"), putAct("u", is("k", num(1)))}, {changeAct("t", retype("bb", impl.KindNum)), changeAct("u", rename("k", "m"))}, {setAct("u", 1, is("m", none)), offAct("t", 1)}},
			"table t a:num!=7 bb:text='x' ccc:num^\ntable u k:num\n.\nlink u k t none\nput t\nput u k=1\n.\nkind t bb num\nname u k m\n.\nset u 1 m=none\noff t 1\n.\n",
		},
	} {
		if got := impl.LogText(c.log); got != c.text {
			t.Errorf("LogText(%+v) is %q, not %q", c.log, got, c.text)
		}
		if got, ok := impl.LogRead(c.text); !ok || logWhole(got) != logWhole(c.log) {
			t.Errorf("LogRead(%q) is %+v, %v, not %+v", c.text, got, ok, c.log)
		}
	}
}

// Promise 9: each log that is ok is read from its text as it was, and behind each beginning of what is read is the base that was there then.
func TestPromise9ReadAsItWas(t *testing.T) {
	for what, log := range rightLogs() {
		s := impl.LogText(log)
		read, ok := impl.LogRead(s)
		if !ok || logWhole(read) != logWhole(log) || !impl.LogSame(read, log) || impl.LogText(read) != s {
			t.Errorf("%s: LogRead(%q) is %+v, %v, not %+v", what, s, read, ok, log)
		}
		for n := range len(log) + 1 {
			was, _ := impl.LogAt(log, n)
			if is, ok := impl.LogAt(read, n); !ok || baseText(is) != baseText(was) {
				t.Errorf("%s: behind %d times of what is read is %+v, not %+v", what, n, is, was)
			}
		}
	}
}

// Of all beginnings of a text just those at the end of a time are texts of a log, and of all ends of it just the whole and the empty one.
func TestLogReadParts(t *testing.T) {
	t.Parallel()
	for _, log := range [][][]impl.Act{longLog(), {goodActs(), moreActs()[:5]}, logOf("table t a:num", "put t", "put t")} {
		s := impl.LogText(log)
		ends := 0
		for at := range len(s) + 1 {
			wantEnd := at == 0 || s[:at] == ".\n" || strings.HasSuffix(s[:at], "\n.\n")
			if _, ok := impl.LogRead(s[:at]); ok != wantEnd {
				t.Errorf("LogRead(%q) tells %v", s[:at], ok)
			}
			if wantEnd {
				ends++
			}
			if _, ok := impl.LogRead(s[at:]); ok != (at == 0 || at == len(s)) {
				t.Errorf("LogRead(%q) tells %v", s[at:], ok)
			}
			checkLogRead(t, s[:at])
		}
		if ends != len(log)+1 {
			t.Errorf("%d beginnings of the text of %d times are texts of a log", ends, len(log))
		}
	}
}

// brokenTexts are texts of no log, each the text of one with something turned.
func brokenTexts(s string) map[string]string {
	list := map[string]string{
		"no last newline":                strings.TrimSuffix(s, "\n"),
		"no last end of a time":          strings.TrimSuffix(s, ".\n"),
		"no last end and newline":        strings.TrimSuffix(s, "\n.\n"),
		"an end ahead":                   ".\n" + s,
		"an end behind":                  s + ".\n",
		"an end behind, and no newline":  s + ".",
		"two ends at once":               strings.TrimSuffix(s, "\n") + ".\n",
		"an empty line ahead":            "\n" + s,
		"an empty line behind":           s + "\n",
		"carriage returns":               strings.ReplaceAll(s, "\n", "\r\n"),
		"carriage returns alone":         strings.ReplaceAll(s, "\n", "\r"),
		"no newlines":                    strings.ReplaceAll(s, "\n", ""),
		"spaces for newlines":            strings.ReplaceAll(s, "\n", " "),
		"no ends":                        strings.ReplaceAll(s, ".\n", ""),
		"commas for ends":                strings.ReplaceAll(s, ".", ","),
		"an act without an end behind":   s + "table zzz a:num\n",
		"half an act behind":             s + "table zzz a:num",
		"two spaces":                     strings.ReplaceAll(s, " ", "  "),
		"tabs":                           strings.ReplaceAll(s, " ", "\t"),
		"capitals":                       strings.ToUpper(s),
		"a mark ahead":                   "\ufeff" + s,
		"a comment ahead":                "# log\n" + s,
		"the whole twice":                s + s,
		"what a desk answers behind all": s + "end\n",
	}
	for i, more := range []string{" ", "\x00", "a", "\n", "\r", "\r\n", "\t", "\xff", "é", "...", "\n.\n", " .\n", ". \n", ".\r\n", "..\n", "'.'\n", "none\n", "fly t\n.\n"} {
		list[fmt.Sprintf("the bytes %d behind", i)] = s + more
		list[fmt.Sprintf("the bytes %d ahead", i)] = more + s
	}
	lines := strings.SplitAfter(strings.TrimSuffix(s, "\n"), "\n")
	for at := range lines {
		turn := func(what string, line string) {
			next := slices.Clone(lines)
			next[at] = line
			list[fmt.Sprintf("%s at the line %d", what, at)] = strings.Join(next, "") + "\n"
		}
		line := strings.TrimSuffix(lines[at], "\n")
		behind := strings.TrimPrefix(lines[at], line)
		turn("an empty line", "\n"+lines[at])
		turn("an empty line behind", line+"\n"+behind+"\n")
		turn("a space ahead", " "+lines[at])
		turn("a space behind", line+" "+behind)
		turn("a tab behind", line+"\t"+behind)
		turn("a carriage return", line+"\r"+behind)
		turn("a nought byte", line+"\x00"+behind)
		turn("a quoted line", "'"+line+"'"+behind)
		if line == "." {
			turn("an end too many", ".\n"+lines[at])
			turn("two points", ".."+behind)
			turn("three points", "..."+behind)
		} else {
			turn("a point behind", line+"."+behind)
			turn("a point and a space ahead", ". "+lines[at])
			turn("a line that is no act", "fly t\n"+lines[at])
		}
	}
	return list
}

func TestLogReadWrong(t *testing.T) {
	t.Parallel()
	for what, log := range map[string][][]impl.Act{"one act": logOf("table t a:num"), "two times": logOf("table t a:num", "put t a=1; put t a=2; off t 1"), "good and more": {goodActs(), moreActs()[:5]}, "long": longLog(), "full": fullLog()} {
		s := impl.LogText(log)
		if !checkLogRead(t, s) {
			t.Fatalf("%s has the text %q", what, s)
		}
		for broken, text := range brokenTexts(s) {
			if text == s {
				t.Errorf("%s, with %s: it is as it was", what, broken)
			}
			wantNoLogRead(t, text)
			checkLogRead(t, text)
		}
	}
	for _, s := range []string{".", ".\n", ".\n.\n", "\n", "\n\n", " ", " \n", "\r\n", "\x00", "none", "none\n", "end\n", "..\n", " .\n", ". \n", "table t a:num", "table t a:num\n", "table t a:num.\n", "table t a:num .\n", "table t a:num\n.", "table t a:num\n.\n\n", "table t a:num\n\n.\n", "\xff\n.\n", "\n.\n"} {
		wantNoLogRead(t, s)
		checkLogRead(t, s)
	}
	if log, ok := impl.LogRead(""); !ok || len(log) != 0 {
		t.Errorf("LogRead of the empty text is %+v, %v", log, ok)
	}
}

// A text whose acts are read one by one, of a log that is not ok.
func TestLogReadNotOk(t *testing.T) {
	long, full := longLog(), fullLog()
	for what, log := range map[string][][]impl.Act{
		"one time too many":              append(slices.Clone(long), actsOf("put t a=3")),
		"many times too many":            append(logOf("table t a:num; put t"), slices.Repeat(logOf("set t 1"), 1000)...),
		"one time too many of six acts":  append(slices.Clone(full), full[14]),
		"one act too many":               append(slices.Clone(full[:14]), append(slices.Clone(full[14]), full[14][0])),
		"one act too many at first":      {slices.Repeat(actsOf("table t a:num"), 7)},
		"many acts too many":             {full[0], slices.Repeat(actsOf("set t 1"), 1000)},
		"no table":                       logOf("off t 1"),
		"a table twice":                  logOf("table t a:num", "table t a:num"),
		"columns of one name":            logOf("table t a:num a:num"),
		"a row that is gone":             logOf("table t a:num; put t", "off t 1", "off t 1"),
		"a row that is gone, at once":    logOf("table t a:num; put t", "off t 1; off t 1"),
		"the last act can't be done":     append(slices.Clone(long[:14]), actsOf("name t a b; name t a b")),
		"the first act can't be done":    append(logOf("put t"), long[:14]...),
		"times in another order":         {long[1], long[0]},
		"a time of nothing in between":   {long[0], nil, long[1]},
		"a time of nothing at the end":   {long[0], long[1], nil},
		"a time of nothing and no other": {nil},
	} {
		s := plainText(log)
		if impl.LogOk(log) || impl.LogText(log) != "" {
			t.Errorf("%s: it is ok", what)
		}
		wantNoLogRead(t, s)
		checkLogRead(t, s)
	}
	for n := range 15 {
		for _, s := range []string{plainText(long[:n]), plainText(full[:n])} {
			wantNoLogRead(t, s+"off t 60\n.\n")
			wantNoLogRead(t, s+"put zz\n.\n")
			wantNoLogRead(t, s+"table z a:num\nput zz\n.\n")
			wantNoLogRead(t, s+".\n")
		}
	}
}

// Texts that tell a log, but not as it is written.
func TestLogReadNotWrittenSo(t *testing.T) {
	for _, s := range []string{
		"table t a:num\nput t a=1\n.\n",
		"table t a:num! n:text^\nput t a=1 n='x'\n.\n",
		"table t a:num\n.\nput t a=-7\n.\nset t 1 a=none\n.\noff t 1\n.\n",
		"table t k:num\nlink t k t stop\nput t k=none\n.\nname t k m\n.\n",
	} {
		if _, ok := impl.LogRead(s); !ok {
			t.Errorf("LogRead(%q) tells false", s)
		}
	}
	for _, s := range []string{
		"table t a:num\nput t a=01\n.\n", "table t a:num\nput t a=+1\n.\n", "table t a:num\nput t a=-0\n.\n", "table t a:num\nput t  a=1\n.\n", "table t a:num\nput t a=1 \n.\n", "table t a:num\n put t a=1\n.\n",
		"table t a:num=none\n.\n", "table t a:num\nput t\noff t 01\n.\n", "table t a:num\nput t\nset t +1\n.\n", "table t n:text^!\n.\n", "table t a:num, b:num\n.\n",
		"table t a:num put t a=1\n.\n", "table t a:num;put t a=1\n.\n", "table t a:num; put t a=1\n.\n", "table t a:num\rput t a=1\n.\n", "table t a:num\vput t a=1\n.\n", "table t a:num\fput t a=1\n.\n", "table t a:num\u2028put t a=1\n.\n", "table t a:num\u0085put t a=1\n.\n",
		"table t a:num\n.\r\nput t a=1\n.\n", "table t a:num\n. \nput t a=1\n.\n", "table t a:num\n .\nput t a=1\n.\n", "table t a:num\n;\nput t a=1\n.\n", "table t a:num\n。\nput t a=1\n.\n", "table t a:num\n\nput t a=1\n.\n", "table t a:num.\nput t a=1.\n",
	} {
		wantNoLogRead(t, s)
		checkLogRead(t, s)
	}
}

func TestLogReadLong(t *testing.T) {
	long := strings.Repeat("x", 1000000)
	for _, s := range []string{
		long, long + "\n", long + "\n.\n", "table t a:num\n.\n" + long, strings.Repeat("\n", 1000000), strings.Repeat(".\n", 500000), strings.Repeat(".", 1000000), strings.Repeat(" ", 1000000) + "\n.\n",
		strings.Repeat("put t\n", 100000), strings.Repeat("put t\n", 100000) + ".\n", strings.Repeat("put t\n.\n", 100000), "table t a:num\nput t\n.\n" + strings.Repeat("set t 1\n.\n", 100000), "table t" + strings.Repeat(" a:num", 100000) + "\n.\n", "table t a:num\n.\nput t" + strings.Repeat(" a=1", 100000) + "\n.\n",
	} {
		if got, ok := impl.LogRead(s); ok || len(got) != 0 {
			t.Errorf("LogRead of %d bytes, %q .., is %+v, %v", len(s), s[:20], got, ok)
		}
	}
}

// What is read from a text has that text, and there is none for a text that is not written so: at each byte of right texts that is turned, left out or put in.
func TestPromise9EveryByte(t *testing.T) {
	t.Parallel()
	bytes := []string{"\n", ".", " ", "\r", "\x00", "a", "t", "0", "1", "2", "-", "=", "'", "!", "^", ":", "\xff", ".\n", "\n.\n", "\n.", "put t\n", "\nput t", "é"}
	can, not := 0, 0
	check := func(s string) {
		t.Helper()
		if checkLogRead(t, s) {
			can++
		} else {
			not++
		}
	}
	for _, s := range []string{
		"table t a:num\n.\nput t a=1\nput t a=2\n.\noff t 1\n.\n",
		"table t a:num n:text^\nput t a=1 n='x'\n.\nkind t a text\nname t a t\n.\nset t 1 n=none\n.\n",
		"table t k:num\nlink t k t gone\nput t\n.\nput t k=1\n.\nadd t d:num!=5\ndrop t d\n.\noff t 1\n.\n",
	} {
		if _, ok := impl.LogRead(s); !ok {
			t.Fatalf("LogRead(%q) tells false", s)
		}
		for at := range len(s) + 1 {
			for _, b := range bytes {
				check(s[:at] + b + s[at:])
				if at < len(s) {
					check(s[:at] + b + s[at+1:])
				}
			}
			if at < len(s) {
				check(s[:at] + s[at+1:])
			}
		}
	}
	if can < 100 || not < 1000 {
		t.Errorf("of the texts %d are of a log, and %d are not", can, not)
	}
}

// Each short run of lines.
func TestPromise9EveryFewLines(t *testing.T) {
	t.Parallel()
	can := 0
	everyText([]string{".\n", "table t a:num\n", "put t\n", "off t 1\n", "\n", "put t", "."}, 6, func(s string) {
		if checkLogRead(t, s) {
			can++
		}
	})
	if can < 50 {
		t.Errorf("%d of the texts are of a log", can)
	}
}

func TestLogMemory(t *testing.T) {
	t.Parallel()
	logs := rightLogs()
	logs["nothing done"] = [][]impl.Act{actsOf("table t a:num"), {}}
	logs["too many times"] = append(fullLog(), actsOf("set t 1 a=1"))
	logs["too many acts"] = [][]impl.Act{slices.Repeat(actsOf("table t a:num b:num"), 7)}
	logs["what can't be done"] = logOf("table t a:num b:text='x'; put t a=1 b='y'", "put t a=1 c=1")
	logs["an act that is not ok"] = [][]impl.Act{actsOf("table t a:num"), {putAct("t", is("A", num(1))), tableAct("u", colsOf(6)...)}}
	lists := [][]impl.Act{nil, actsOf("table z a:num b:text='x'; put z a=1 b='y'; set z 1 a=2"), actsOf("put t a=1 a=1"), {{}}, slices.Repeat(actsOf("set t 1 a=1"), 7), actsOf("set t 1 a=1; off t 1")}
	for what, log := range logs {
		g := guardLog(log)
		apart := func(call string, parts []part) {
			t.Helper()
			g.check(t, what+": "+call)
			checkApart(t, what+": "+call, parts)
			g.check(t, what+": "+call+"'s answer")
		}
		for _, n := range []int{-1, 0, 1, 3, 4, len(log) - 1, len(log), len(log) + 1} {
			b, _ := impl.LogAt(g.log, n)
			apart(fmt.Sprintf("LogAt of %d", n), baseParts(b))
			apart(fmt.Sprintf("LogCut of %d", n), logParts(impl.LogCut(g.log, n)))
		}
		for i, list := range lists {
			acts := guardActs(list...)
			got, _ := impl.LogDo(g.log, acts.acts)
			acts.check(t, "LogDo")
			apart(fmt.Sprintf("LogDo of the acts %d", i), logParts(got))
			acts.check(t, "LogDo's answer")
		}
		read, _ := impl.LogRead(impl.LogText(g.log))
		apart("LogRead", logParts(read))
		impl.LogOk(g.log)
		impl.LogSame(g.log, g.log)
		apart("asked", nil)
	}
}

// Times that are one list, and acts that have one list, are told apart in the answer; and so are acts out of the log itself that are done again.
func TestLogOneListTwice(t *testing.T) {
	told := sets(is("a", num(1)))
	again := []impl.Act{putAct("t", told...), putAct("t", told...)}
	again[0].Sets, again[1].Sets = told, told
	cols := []impl.Col{numCol("a"), textCol("b")}
	ahead := []impl.Act{tableAct("t", cols...), tableAct("u", cols...), tableAct("v", cols...)}
	for i := range ahead {
		ahead[i].Cols = cols
	}
	log := [][]impl.Act{ahead, again, again}
	was := logWhole(log)
	for what, answer := range map[string]func() [][]impl.Act{
		"LogDo":           func() [][]impl.Act { got, _ := impl.LogDo(log, log[1]); return got },
		"LogDo, as it is": func() [][]impl.Act { got, _ := impl.LogDo(log, log[0]); return got },
		"LogCut":          func() [][]impl.Act { return impl.LogCut(log, 3) },
		"LogCut of two":   func() [][]impl.Act { return impl.LogCut(log, 2) },
		"LogRead":         func() [][]impl.Act { got, _ := impl.LogRead(impl.LogText(log)); return got },
	} {
		got := answer()
		if len(got) < 2 {
			t.Errorf("%s is %+v", what, got)
		}
		checkApart(t, what, logParts(got))
		if logWhole(log) != was {
			t.Fatalf("%s: the argument was %s, and is %+v", what, was, log)
		}
	}
}

// Two answers share nothing, be they of one log, of one base or of one text.
func TestLogAnswersApart(t *testing.T) {
	log := longLog()[:9]
	s := impl.LogText(log)
	var list []part
	for range 2 {
		for _, n := range []int{0, 4, 5, 8, 9} {
			b, _ := impl.LogAt(log, n)
			list = append(append(list, baseParts(b)...), logParts(impl.LogCut(log, n))...)
		}
		for _, acts := range [][]impl.Act{longLog()[9], nil, {{}}} {
			got, _ := impl.LogDo(log, acts)
			list = append(list, logParts(got)...)
		}
		read, _ := impl.LogRead(s)
		list = append(list, logParts(read)...)
	}
	checkApart(t, "two answers", list)
	if logWhole(log) != logWhole(longLog()[:9]) || impl.LogText(log) != s {
		t.Error("answers share memory with their arguments")
	}
}
