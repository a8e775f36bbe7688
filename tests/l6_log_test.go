package tests

import (
	"fmt"
	"math"
	"slices"
	"strings"
	"testing"

	"loop.example/custumal/impl"
)

// actsOf is acts told by their texts, with `; ` between.
func actsOf(told string) []impl.Act {
	var list []impl.Act
	for _, s := range strings.Split(told, "; ") {
		a, ok := impl.ActRead(s)
		if !ok {
			panic("no act: " + s)
		}
		list = append(list, a)
	}
	return list
}

// logOf is a log told by the acts of each of its times.
func logOf(times ...string) [][]impl.Act {
	var log [][]impl.Act
	for _, told := range times {
		log = append(log, actsOf(told))
	}
	return log
}

// logWhole tells all parts of a log, so that two of them can be held against each other without the program; no list and an empty one are told alike.
func logWhole(log [][]impl.Act) string { return fmt.Sprintf("%+v", log) }

func copyOfLog(log [][]impl.Act) [][]impl.Act {
	var next [][]impl.Act
	for _, acts := range log {
		var list []impl.Act
		for _, a := range acts {
			list = append(list, copyOfAct(a))
		}
		next = append(next, list)
	}
	return next
}

// longLog is LogMost times, behind each of which the base is another one; each needs what was done ahead.
func longLog() [][]impl.Act {
	return logOf(
		"table t a:num! s:text='12'",
		"table u k:num; link u k t gone; put t a=1; put t a=2 s='x'; put u k=1; put u k=2",
		"kind t s num",
		"put t a=3 s=7; put u",
		"add u d:text!='q'; set u 3 k=3",
		"table v k:num m:num^; link v k u stop; link v m v none",
		"put v k=1 m=1; put v k=2; set v 2 m=2",
		"name v k n",
		"off v 1",
		"set t 1 s=5; set t 1 s=6; set t 1 s=none",
		"off t 1; put t a=4",
		"drop t s; add t s:text^; set t 4 s='once'; set t 2 s='more'",
		"set v 2 n=none; off u 2; off u 3",
		"link t a t stop; set t 2 a=3; set t 3 a=4; set t 4 a=4; off t 2; put t a=3 s='more'",
		"name t a b; name t b a; name u k kk",
	)
}

// fullLog is LogMost times of ActMost acts each.
func fullLog() [][]impl.Act {
	log := [][]impl.Act{actsOf("table t a:num; put t; put t; put t; put t; put t")}
	for n := range 14 {
		log = append(log, slices.Repeat([]impl.Act{setAct("t", 1+n%5, is("a", num(n)))}, 6))
	}
	return log
}

// rightLogs are ok.
func rightLogs() map[string][][]impl.Act {
	list := map[string][][]impl.Act{
		"nothing":           nil,
		"empty":             {},
		"one act":           logOf("table t a:num"),
		"six acts":          logOf("table t a:num; put t; put t; off t 1; put t; off t 3"),
		"full":              fullLog(),
		"the same again":    append(logOf("table t a:num"), slices.Repeat(logOf("put t"), 8)...),
		"what turns no row": append(logOf("table t a:num", "put t"), slices.Repeat(logOf("set t 1"), 13)...),
		"put and off":       logOf("table t a:num", "put t; off t 1", "put t; off t 2", "put t; off t 3", "put t; off t 4"),
		"good and more":     {goodActs(), moreActs()[:5]},
		"names as verbs":    logOf("table put set:num off:text='put'", "put put set=1 off='off'", "name put set put", "link put put put stop"),
	}
	long := longLog()
	for n := range len(long) + 1 {
		list[fmt.Sprintf("%d long", n)] = long[:n]
	}
	return list
}

// behindEach is the base behind each beginning of a log, from that of no times on, and whether it is ok: told anew from the document's words.
func behindEach(log [][]impl.Act) ([]impl.Base, bool) {
	bases := []impl.Base{{}}
	if len(log) > 15 {
		return nil, false
	}
	for i, acts := range log {
		next, code, _ := impl.ActAll(bases[i], acts)
		if len(acts) == 0 || code != impl.TabFine {
			return nil, false
		}
		bases = append(bases, next)
	}
	return bases, true
}

// plainText is the text of a log that is ok, told anew from the document's words.
func plainText(log [][]impl.Act) string {
	s := ""
	for _, acts := range log {
		for _, a := range acts {
			s += impl.ActText(a) + "\n"
		}
		s += ".\n"
	}
	return s
}

// beginnings are numbers of times: all that there are, and some that are not.
func beginnings(log [][]impl.Act) []int {
	list := []int{math.MinInt, math.MinInt + 1, -16, -4, -1}
	for n := range len(log) + 1 {
		list = append(list, n)
	}
	return append(list, len(log)+1, len(log)+4, 16, math.MaxInt)
}

// checkLog holds all that is told of a log against the bases behind its beginnings, and says whether it is ok.
func checkLog(t *testing.T, what string, log [][]impl.Act) bool {
	t.Helper()
	was := logWhole(log)
	bases, can := behindEach(log)
	if ok := impl.LogOk(log); ok != can {
		t.Errorf("%s: LogOk of %s is %v", what, was, ok)
	}
	for _, n := range beginnings(log) {
		want, begins := impl.Base{}, can && 0 <= n && n <= len(log)
		var wantCut [][]impl.Act
		if begins {
			want, wantCut = bases[n], log[:n]
		}
		if b, ok := impl.LogAt(log, n); ok != begins || baseText(b) != baseText(want) {
			t.Errorf("%s: LogAt(%d) is %+v, %v, not %+v, %v", what, n, b, ok, want, begins)
		}
		if cut := impl.LogCut(log, n); logWhole(cut) != logWhole(wantCut) {
			t.Errorf("%s: LogCut(%d) is %+v, not %+v", what, n, cut, wantCut)
		}
	}
	wantWords := ""
	if can {
		wantWords = plainText(log)
	}
	if s := impl.LogText(log); s != wantWords {
		t.Errorf("%s: LogText is %q, not %q", what, s, wantWords)
	}
	if logWhole(log) != was {
		t.Fatalf("%s: the argument was %s, and is %+v", what, was, log)
	}
	return can
}

func TestLogBounds(t *testing.T) {
	if impl.LogMost != 15 {
		t.Error("a constant is another one than the document's")
	}
}

func TestPromise9RightLogs(t *testing.T) {
	for what, log := range rightLogs() {
		if !checkLog(t, what, log) {
			t.Errorf("%s is not ok", what)
		}
	}
	if n := len(longLog()); n != 15 {
		t.Errorf("the long log has %d times", n)
	}
}

// The bases behind a short log are told one by one, so that they are not held against the program alone.
func TestPromise9Plain(t *testing.T) {
	log := logOf("table t a:num! b:text", "put t a=1 b='12'; put t a=2", "kind t b num; off t 2", "table u k:num; link u k t none", "put u k=1; off t 1")
	cols := []impl.Col{{Name: "a", Kind: impl.KindNum, Need: true}, textCol("b")}
	one := impl.Row{Id: 1, Vals: vals(num(1), text("12"))}
	behind := impl.Table{First: cols, Changes: []impl.Change{retype("b", impl.KindNum)}, Rows: []impl.Row{one}, Next: 3}
	key := impl.Table{First: []impl.Col{numCol("k")}, Next: 1}
	gone := copyOf(behind)
	gone.Rows = nil
	for n, want := range []impl.Base{
		{},
		{Tabs: tabs(impl.Tab{Name: "t", Table: impl.Table{First: cols, Next: 1}})},
		{Tabs: tabs(impl.Tab{Name: "t", Table: impl.Table{First: cols, Rows: []impl.Row{one, {Id: 2, Vals: vals(num(2), none)}}, Next: 3}})},
		{Tabs: tabs(impl.Tab{Name: "t", Table: behind})},
		{Tabs: tabs(impl.Tab{Name: "t", Table: behind}, impl.Tab{Name: "u", Table: key}), Links: links(link("u", "k", "t", impl.HowNone))},
		{Tabs: tabs(impl.Tab{Name: "t", Table: gone}, impl.Tab{Name: "u", Table: impl.Table{First: key.First, Rows: []impl.Row{{Id: 1, Vals: vals(none)}}, Next: 2}}), Links: links(link("u", "k", "t", impl.HowNone))},
	} {
		if b, ok := impl.LogAt(log, n); !ok || baseText(b) != baseText(want) {
			t.Errorf("LogAt(%d) is %+v, %v, not %+v", n, b, ok, want)
		}
		if cut := impl.LogCut(log, n); len(cut) != n || logWhole(cut) != logWhole(log[:n]) {
			t.Errorf("LogCut(%d) is %+v", n, cut)
		}
	}
}

// Promise 9: a beginning of a log is a log, behind which is the base that was there then, and what comes behind it in the log can be done to it.
func TestPromise9Beginnings(t *testing.T) {
	for what, log := range rightLogs() {
		for n := range len(log) + 1 {
			cut := impl.LogCut(log, n)
			if !impl.LogOk(cut) || !impl.LogSame(cut, log[:n]) {
				t.Errorf("%s: LogCut(%d) is %+v", what, n, cut)
			}
			b, ok := impl.LogAt(log, n)
			if c, is := impl.LogAt(cut, n); !ok || !is || !impl.BaseOk(b) || baseText(c) != baseText(b) {
				t.Errorf("%s: behind %d times is %+v, and behind the beginning of it %+v", what, n, b, c)
			}
			for _, acts := range log[n:] {
				next, code := impl.LogDo(cut, acts)
				if code != impl.TabFine {
					t.Fatalf("%s: %+v ends with %d behind %+v", what, acts, code, cut)
				}
				cut = next
			}
			if logWhole(cut) != logWhole(log) {
				t.Errorf("%s: done again from %d times on it is %+v", what, n, cut)
			}
		}
	}
}

// wantNoLog asks for what each function tells of a log that is not ok.
func wantNoLog(t *testing.T, what string, log [][]impl.Act) {
	t.Helper()
	if checkLog(t, what, log) {
		t.Errorf("%s: %+v is ok", what, log)
	}
	for _, acts := range [][]impl.Act{nil, actsOf("table z a:num"), actsOf("put t"), {{}}, slices.Repeat([]impl.Act{putAct("t")}, 7)} {
		if got, code := impl.LogDo(log, acts); code != impl.TabForm || len(got) != 0 {
			t.Errorf("%s: LogDo of %+v is %+v, %d", what, acts, got, code)
		}
	}
}

// A time at which nothing is done, first, in the middle and last, and more than once.
func TestLogNothingDone(t *testing.T) {
	t.Parallel()
	for what, log := range rightLogs() {
		for _, nothing := range [][]impl.Act{nil, {}} {
			for at := range min(len(log), 14) + 1 {
				more := slices.Insert(slices.Clone(log[:min(len(log), 14)]), at, nothing)
				wantNoLog(t, fmt.Sprintf("%s with nothing done at %d", what, at), more)
				wantNoLog(t, fmt.Sprintf("%s with nothing done twice at %d", what, at), slices.Insert(more, at, nothing))
			}
			for at := range log {
				other := slices.Clone(log)
				other[at] = nothing
				wantNoLog(t, fmt.Sprintf("%s with nothing done instead at %d", what, at), other)
			}
		}
	}
	wantNoLog(t, "nothing done", [][]impl.Act{{}})
	wantNoLog(t, "nothing done at fifteen times", make([][]impl.Act, 15))
}

func TestLogTooMany(t *testing.T) {
	t.Parallel()
	turn := logOf("set t 1")
	ahead := logOf("table t a:num; put t")
	for n := range 15 {
		if log := append(slices.Clone(ahead), slices.Repeat(turn, n)...); !checkLog(t, "few enough", log) {
			t.Errorf("%d times are not ok", len(log))
		}
	}
	for _, n := range []int{15, 16, 30, 300} {
		wantNoLog(t, fmt.Sprintf("%d times", n+1), append(slices.Clone(ahead), slices.Repeat(turn, n)...))
	}
	wantNoLog(t, "the long log and one time more", append(longLog(), actsOf("put t a=3")))
	wantNoLog(t, "the full log and one time more", append(fullLog(), actsOf("put t")))
	for n := range 15 {
		for _, many := range []int{1, 6, 7, 8, 1000} {
			log := append(slices.Clone(ahead), slices.Repeat(turn, 14)...)
			log[n] = slices.Repeat(turn[0], many)
			if n == 0 {
				log[n] = append(slices.Clone(ahead[0]), slices.Repeat(turn[0], max(many-2, 0))...)
			}
			if what := fmt.Sprintf("%d acts at %d", len(log[n]), n); len(log[n]) > 6 {
				wantNoLog(t, what, log)
			} else if !checkLog(t, what, log) {
				t.Errorf("%s: it is not ok", what)
			}
		}
	}
}

// An act that is not ok, or that can't be done, at each place of each time.
func TestLogBadActs(t *testing.T) {
	t.Parallel()
	for what, log := range map[string][][]impl.Act{"long": longLog(), "good and more": {goodActs(), moreActs()[:5]}, "one act": logOf("table t a:num")} {
		for at, acts := range log {
			for place := range len(acts) + 1 {
				for i, bad := range badActs() {
					called := fmt.Sprintf("%s with the bad act %d at %d, %d", what, i, at, place)
					other := slices.Clone(log)
					if place < len(acts) {
						other[at] = slices.Clone(acts)
						other[at][place] = bad
						wantBadLog(t, called, other, log, at)
					}
					if len(acts) < 6 {
						other[at] = slices.Insert(slices.Clone(acts), place, bad)
						wantBadLog(t, called, other, log, at)
					}
				}
			}
		}
	}
}

// wantBadLog asks that a log with a bad act is not ok, as a whole and cut behind it, and that all ahead of it is.
func wantBadLog(t *testing.T, what string, bad [][]impl.Act, log [][]impl.Act, at int) {
	t.Helper()
	if !impl.LogOk(bad[:at]) || !impl.LogOk(log) {
		t.Errorf("%s: it is not ok ahead of it", what)
	}
	for _, part := range [][][]impl.Act{bad, bad[:at+1]} {
		if impl.LogOk(part) || impl.LogText(part) != "" {
			t.Errorf("%s: %+v is ok", what, part)
		}
		for _, n := range []int{0, at, len(part)} {
			if b, ok := impl.LogAt(part, n); ok || baseText(b) != baseText(impl.Base{}) || len(impl.LogCut(part, n)) != 0 {
				t.Errorf("%s: there is a beginning of %d times, behind which is %+v", what, n, b)
			}
		}
		if got, code := impl.LogDo(part, actsOf("table z a:num")); code != impl.TabForm || len(got) != 0 {
			t.Errorf("%s: LogDo is %+v, %d", what, got, code)
		}
	}
}

// Times and acts that are left out, told twice, or told in another order: some can be done all the same.
func TestLogOtherOrders(t *testing.T) {
	t.Parallel()
	seen := map[bool]int{}
	check := func(what string, log [][]impl.Act) {
		t.Helper()
		seen[checkLog(t, what, log)]++
	}
	for what, log := range map[string][][]impl.Act{"long": longLog(), "good and more": {goodActs(), moreActs()[:5]}, "full": fullLog(), "the same again": rightLogs()["the same again"]} {
		for at, acts := range log {
			check(fmt.Sprintf("%s without %d", what, at), slices.Delete(slices.Clone(log), at, at+1))
			check(fmt.Sprintf("%s from %d on", what, at), log[at:])
			if len(log) < 15 {
				check(fmt.Sprintf("%s with %d twice", what, at), slices.Insert(slices.Clone(log), at, acts))
			}
			if at > 0 {
				other := slices.Clone(log)
				other[at-1], other[at] = acts, other[at-1]
				check(fmt.Sprintf("%s with %d ahead", what, at), other)
			}
			for place := range acts {
				other := slices.Clone(log)
				other[at] = slices.Delete(slices.Clone(acts), place, place+1)
				check(fmt.Sprintf("%s without %d, %d", what, at, place), other)
				if place > 0 {
					other[at] = slices.Clone(acts)
					other[at][place-1], other[at][place] = acts[place], acts[place-1]
					check(fmt.Sprintf("%s with %d, %d ahead", what, at, place), other)
				}
			}
		}
	}
	if seen[true] < 50 || seen[false] < 50 {
		t.Errorf("of other orders so many are ok, and not: %v", seen)
	}
}

// wantDo holds LogDo against its words in the document, and what it answers against LogAt.
func wantDo(t *testing.T, log [][]impl.Act, acts []impl.Act) ([][]impl.Act, int) {
	t.Helper()
	was, wasActs := logWhole(log), fmt.Sprintf("%+v", acts)
	got, code := impl.LogDo(log, acts)
	bases, _ := behindEach(log)
	next, wantCode, _ := impl.ActAll(bases[len(log)], acts)
	if wantCode == impl.TabFine && len(acts) == 0 {
		wantCode = impl.TabForm
	} else if wantCode == impl.TabFine && len(log) == 15 {
		wantCode = impl.TabFull
	}
	want := slices.Clone(log)
	if wantCode == impl.TabFine {
		want = append(want, acts)
	}
	if code != wantCode || logWhole(got) != logWhole(want) {
		t.Fatalf("%+v behind %s ends with %d, not %d, and is %+v", acts, was, code, wantCode, got)
	}
	if logWhole(log) != was || fmt.Sprintf("%+v", acts) != wasActs {
		t.Fatalf("the arguments were %s and %s, and are %+v and %+v", was, wasActs, log, acts)
	}
	if code == impl.TabFine {
		bases = append(bases, next)
	}
	if !impl.LogOk(got) {
		t.Fatalf("%+v behind %s: %+v is not ok", acts, was, got)
	}
	for n, b := range bases {
		if at, ok := impl.LogAt(got, n); !ok || baseText(at) != baseText(b) {
			t.Fatalf("%+v behind %s: behind %d times is %+v, %v, not %+v", acts, was, n, at, ok, b)
		}
	}
	return got, code
}

// LogDo of one time of a log behind the other makes it.
func TestLogDo(t *testing.T) {
	for what, log := range rightLogs() {
		var now [][]impl.Act
		for _, acts := range log {
			next, code := wantDo(t, now, acts)
			if code != impl.TabFine {
				t.Fatalf("%s: %+v ends with %d", what, acts, code)
			}
			now = next
		}
		if logWhole(now) != logWhole(log) || !impl.LogSame(now, log) {
			t.Errorf("%s: it came to %+v", what, now)
		}
	}
}

// heldLog is a log behind which each code can come.
func heldLog() [][]impl.Act {
	return logOf(
		"table t a:num!; table u k:num o:num^; table v k:num",
		"link u k t stop; link v k t gone",
		"put t a=1; put t a=2; put u k=1 o=5; put u k=2; put v k=2",
	)
}

// codeActs are acts that can't be done behind heldLog, with each code; ahead of the one that can't be done, some can.
func codeActs() map[int][][]impl.Act {
	return map[int][][]impl.Act{
		impl.TabForm: {actsOf("put t zz=1"), actsOf("put t a=3; put t a='x'"), {{}}, append(actsOf("put t a=3"), impl.Act{Kind: 7}), {setAct("t", 61)}, actsOf("table t a:num"), actsOf("drop t a"), actsOf("link u k t gone")},
		impl.TabNeed: {actsOf("put t"), actsOf("put t a=3; set t 3 a=none")},
		impl.TabOnce: {actsOf("put u o=5"), actsOf("put u o=6; put u o=6"), actsOf("set u 2 o=5")},
		impl.TabFull: {slices.Repeat([]impl.Act{putAct("v")}, 7), slices.Repeat([]impl.Act{{}}, 7), slices.Repeat([]impl.Act{putAct("t", is("a", num(1)))}, 100), actsOf("table w a:num")},
		impl.TabNone: {actsOf("off t 3"), actsOf("off u 1; off u 1"), actsOf("put w"), actsOf("set t 0 a=1"), actsOf("drop w a")},
		impl.TabHeld: {actsOf("off t 1"), actsOf("set u 1 k=2; off t 1; off t 2")},
		impl.TabLink: {actsOf("put u k=9"), actsOf("put t a=3; put u k=3; put u k=4"), actsOf("link t a v stop")},
		impl.TabUsed: {actsOf("drop u k"), actsOf("name u k m; kind u m text")},
	}
}

// Each code that ActAll tells, with the log as it was: of a log of a few times, and of one of LogMost times.
func TestLogDoCodes(t *testing.T) {
	few := heldLog()
	most := append(heldLog(), slices.Repeat(logOf("set t 1"), 12)...)
	for code, lists := range codeActs() {
		for _, acts := range lists {
			for _, log := range [][][]impl.Act{few, most} {
				got, end := wantDo(t, log, acts)
				if end != code || logWhole(got) != logWhole(log) {
					t.Errorf("%+v ends with %d, not %d, behind %d times, and is %+v", acts, end, code, len(log), got)
				}
			}
		}
	}
	if n := len(codeActs()); n != 8 {
		t.Errorf("there are acts for %d codes", n)
	}
}

func TestLogDoNone(t *testing.T) {
	for what, log := range rightLogs() {
		for _, none := range [][]impl.Act{nil, {}, fullLog()[0][:0]} {
			if got, code := wantDo(t, log, none); code != impl.TabForm || logWhole(got) != logWhole(log) {
				t.Errorf("%s: no acts end with %d, and it is %+v", what, code, got)
			}
		}
	}
}

// A log of LogMost times: what can be done is refused with TabFull, and only behind all other codes.
func TestLogDoFull(t *testing.T) {
	for what, c := range map[string]struct {
		log [][]impl.Act
		can []string
		not map[string]int
	}{
		"long": {longLog(), []string{"put t a=3", "off t 5", "put v; put v; put v", "add t z:num"}, map[string]int{"put t": impl.TabNeed, "off t 1": impl.TabNone, "off t 4": impl.TabHeld, "drop t a": impl.TabUsed, "put t a=9": impl.TabLink, "put t a=3 s='once'": impl.TabOnce, "put t a='x'": impl.TabForm}},
		"full": {fullLog(), []string{"put t", "off t 5; put t", "table u k:num", "put t; put t; put t"}, map[string]int{"off t 6": impl.TabNone, "put t b=1": impl.TabForm, "put t; put t; put t; put t": impl.TabFull, "link t a t stop": impl.TabLink}},
	} {
		if !impl.LogOk(c.log) || len(c.log) != 15 {
			t.Fatalf("%s is not ok, or not full", what)
		}
		for _, told := range c.can {
			if got, code := wantDo(t, c.log, actsOf(told)); code != impl.TabFull || logWhole(got) != logWhole(c.log) {
				t.Errorf("%s: %s ends with %d, and it is %+v", what, told, code, got)
			}
			// Behind one time less it can be done.
			if _, code := wantDo(t, c.log[:14], actsOf(told)); code != impl.TabFine {
				t.Errorf("%s: %s ends with %d behind 14 times", what, told, code)
			}
		}
		for told, want := range c.not {
			if got, code := wantDo(t, c.log, actsOf(told)); code != want || logWhole(got) != logWhole(c.log) {
				t.Errorf("%s: %s ends with %d, not %d, and it is %+v", what, told, code, want, got)
			}
		}
		if _, code := wantDo(t, c.log, nil); code != impl.TabForm {
			t.Errorf("%s: no acts end with %d", what, code)
		}
		if _, code := wantDo(t, c.log, make([]impl.Act, 7)); code != impl.TabFull {
			t.Errorf("%s: seven acts end with %d", what, code)
		}
	}
}

// plainSame says whether two logs are one, told anew from the document's words.
func plainSame(a [][]impl.Act, b [][]impl.Act) bool {
	if len(a) != len(b) {
		return false
	}
	for i := range a {
		if len(a[i]) != len(b[i]) {
			return false
		}
		for j := range a[i] {
			if impl.ActText(a[i][j]) != impl.ActText(b[i][j]) {
				return false
			}
		}
	}
	return true
}

func TestLogSame(t *testing.T) {
	one := logOf("table t a:num", "put t a=1; put t a=2")
	wrong := impl.Act{Kind: 7, Name: "t"}
	over := putAct("t")
	over.Id = 1
	for _, c := range []struct {
		what string
		a, b [][]impl.Act
		same bool
	}{
		{"nothing", nil, nil, true},
		{"nothing and an empty one", nil, [][]impl.Act{}, true},
		{"one and a copy", one, copyOfLog(one), true},
		{"one and no lists for empty ones", one, [][]impl.Act{{{Kind: impl.ActTable, Name: "t", Sets: []impl.Set{}, Cols: colsOf(1)}}, one[1]}, true},
		{"nothing and a time of nothing", nil, [][]impl.Act{nil}, false},
		{"times of nothing", [][]impl.Act{nil, nil}, [][]impl.Act{{}, {}}, true},
		{"times of nothing, one more", [][]impl.Act{nil, nil}, [][]impl.Act{nil}, false},
		{"the last act", one, logOf("table t a:num", "put t a=1; put t a=3"), false},
		{"the first act", one, logOf("table t a:num!", "put t a=1; put t a=2"), false},
		{"a time more", one, append(copyOfLog(one), actsOf("put t")), false},
		{"a time of nothing more", one, append(copyOfLog(one), nil), false},
		{"a time of nothing ahead", one, append([][]impl.Act{nil}, one...), false},
		{"a time less", one, one[:1], false},
		{"an act more", one, logOf("table t a:num", "put t a=1; put t a=2; put t a=2"), false},
		{"an act less", one, logOf("table t a:num", "put t a=1"), false},
		{"an act at another time", one, logOf("table t a:num; put t a=1", "put t a=2"), false},
		{"acts one by one", one, logOf("table t a:num", "put t a=1", "put t a=2"), false},
		{"another order", one, logOf("table t a:num", "put t a=2; put t a=1"), false},
		{"times in another order", one, logOf("put t a=1; put t a=2", "table t a:num"), false},
		{"what can't be done", logOf("off t 1"), logOf("off t 1"), true},
		{"other things that can't be done", logOf("off t 1"), logOf("off t 2"), false},
		{"acts that are not ok", [][]impl.Act{{{}}}, [][]impl.Act{{wrong}}, true},
		{"acts that are not ok, and more of them", [][]impl.Act{{{}, over}}, [][]impl.Act{{wrong}}, false},
		{"acts that are not ok, and none", [][]impl.Act{{over}}, [][]impl.Act{{}}, false},
		{"an act that is not ok, and one that is", [][]impl.Act{{over}}, [][]impl.Act{{putAct("t")}}, false},
		{"many acts", [][]impl.Act{slices.Repeat([]impl.Act{over}, 1000)}, [][]impl.Act{slices.Repeat([]impl.Act{wrong}, 1000)}, true},
		{"many times", slices.Repeat(one, 1000), slices.Repeat(one, 1000), true},
		{"many times, one more", slices.Repeat(one, 1000), append(slices.Repeat(one, 1000), one[0]), false},
		{"too many values", [][]impl.Act{{putAct("t", make([]impl.Set, 6)...)}}, [][]impl.Act{{putAct("t", make([]impl.Set, 60)...)}}, true},
	} {
		if impl.LogSame(c.a, c.b) != c.same || impl.LogSame(c.b, c.a) != c.same || plainSame(c.a, c.b) != c.same {
			t.Errorf("%s: LogSame(%+v, %+v) is not %v", c.what, c.a, c.b, c.same)
		}
	}
}

// Each two of many logs, right ones and wrong ones.
func TestLogSameEachTwo(t *testing.T) {
	var logs [][][]impl.Act
	for _, log := range rightLogs() {
		logs = append(logs, log, append(slices.Clone(log), nil), append(slices.Clone(log), []impl.Act{{}}), append(slices.Clone(log), []impl.Act{{Kind: 7}}))
		if len(log) > 0 {
			last := log[len(log)-1]
			logs = append(logs, append(slices.Clone(log[:len(log)-1]), append(slices.Clone(last), impl.Act{})), append(slices.Clone(log[:len(log)-1]), append(slices.Clone(last[:len(last)-1]), putAct("zz"))))
		}
	}
	for i, a := range logs {
		for j, b := range logs {
			if same := impl.LogSame(a, b); same != plainSame(a, b) || i == j && !same {
				t.Errorf("LogSame(%+v, %+v) is %v", a, b, same)
			}
		}
	}
}

// Promise 9: long walks, cut here and there; what is done next is worked out from what was done ahead, so that each run is the same.
func TestPromise9LongWalks(t *testing.T) {
	t.Parallel()
	acts := append(someActs(), impl.Act{}, putAct("T"))
	// Each third act is one of these, so that walks come to many times.
	often := []impl.Act{putAct("t"), setAct("t", 1), setAct("t", 2), setAct("u", 1), putAct("t", is("k", num(1))), offAct("t", 3), offAct("t", 4)}
	seen := map[string]int{}
	for start := range 40 {
		pick := uint32(start)
		next := func(n int) int {
			pick = pick*1664525 + 1013904223
			return int(pick>>8) % n
		}
		log := logOf("table t k:num m:num; table u k:num! m:num^; link u k t stop; put t; put t; put u k=1 m=1")
		for range 80 {
			var list []impl.Act
			// Of few acts all can be done more often than of many.
			for range min(next(8), next(8), next(8)) + next(2) {
				from := acts
				if next(3) == 0 {
					from = often
				}
				list = append(list, from[next(len(from))])
			}
			done, code := wantDo(t, log, list)
			seen[fmt.Sprint("code ", code)]++
			seen[fmt.Sprint("times ", len(done))]++
			log = done
			if next(60) == 0 {
				log = impl.LogCut(log, 1+next(len(log)))
			}
		}
		if read, ok := impl.LogRead(impl.LogText(log)); !ok || logWhole(read) != logWhole(log) {
			t.Fatalf("%+v is read as %+v, %v", log, read, ok)
		}
	}
	for code := range 9 {
		if seen[fmt.Sprint("code ", code)] == 0 {
			t.Errorf("no walk came to the code %d", code)
		}
	}
	for n := range 15 {
		if seen[fmt.Sprint("times ", n+1)] == 0 {
			t.Errorf("no walk came to %d times", n+1)
		}
	}
}
