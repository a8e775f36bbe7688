package tests

import (
	"fmt"
	"strings"
	"sync"
	"testing"

	"loop.example/custumal/impl"
)

func TestDeskBounds(t *testing.T) {
	if impl.DeskMaxText != 20000 || impl.DeskMaxLines != 200 || impl.DeskMaxOut != 20000 {
		t.Errorf("the bounds are %d, %d and %d", impl.DeskMaxText, impl.DeskMaxLines, impl.DeskMaxOut)
	}
}

// wantRun asks what a script answers.
func wantRun(t *testing.T, script string, want string) {
	t.Helper()
	if got := checkCuts(t, script); got != want {
		t.Errorf("DeskRun(%q) is %q, not %q", script, got, want)
	}
}

// wantTalk asks what lines are answered, each told by `> ` and the line, with its answer in the lines behind it.
func wantTalk(t *testing.T, talk string) {
	t.Helper()
	script, want := "", ""
	for _, told := range strings.Split(strings.TrimSpace(talk), "\n") {
		told = strings.TrimLeft(told, "\t")
		line, ok := strings.CutPrefix(told, "> ")
		if !ok {
			want += told + "\n"
			continue
		}
		// What was told so far is asked ahead of each line, so that each line has its own answer.
		if got := impl.DeskRun(script); got != want {
			t.Fatalf("DeskRun(%q) is %q, not %q", script, got, want)
		}
		script += line + "\n"
	}
	wantRun(t, script, want)
}

func TestDeskExample(t *testing.T) {
	wantTalk(t, `
		> table t a:num! n:text^
		fine
		> table u k:num s:text='new'
		fine
		> link u k t gone
		fine
		> put t a=1 n='x'
		fine
		> put t a=2 n='x'
		once
		> begin
		fine
		> put t a=2 n='y'
		held
		> put u k=1
		held
		> put u k=2 s='old'
		held
		> commit
		fine
		> rows u
		1 1 'new'
		2 2 'old'
		end
		> add t p:num=5
		fine
		> kind u s num
		fine
		> rows u
		1 1 none
		2 2 none
		end
		> shape u
		k:num
		s:num
		end
		> doomed t 1
		t 1
		u 1
		end
		> off t 1
		fine
		> rows t
		2 2 'y' 5
		end
		> rows u
		2 2 none
		end
		> undo
		fine
		> rows t
		1 1 'x' 5
		2 2 'y' 5
		end
		> find u k 1
		1
		end
		> drop u k
		used
	`)
}

func TestDeskLinesWithoutWords(t *testing.T) {
	for _, script := range []string{"", "\n", "\n\n\n", " ", "   ", " \n", "\n ", " \n  \n\n   \n ", strings.Repeat("\n", 20000), strings.Repeat(" ", 20000), strings.Repeat(" \n", 10000)} {
		if got := impl.DeskRun(script); got != "" {
			t.Errorf("DeskRun of %d bytes without words is %q", len(script), got)
		}
	}
}

func TestDeskLastLine(t *testing.T) {
	for script, want := range map[string]string{
		"log":                           "end\n",
		"log\n":                         "end\n",
		"log\n\n":                       "end\n",
		"log\n \n":                      "end\n",
		"\nlog":                         "end\n",
		"log\nlog":                      "end\nend\n",
		"log\nlog\n":                    "end\nend\n",
		"\n\nlog\n\n\nlog\n\n":          "end\nend\n",
		"table t a:num\nput t a=7":      "fine\nfine\n",
		"table t a:num\nput t a=7\n":    "fine\nfine\n",
		"table t a:num\nrows t \n \n":   "fine\nend\n",
		"x":                             "what\n",
		"x\n":                           "what\n",
		"what\nend\nfine\nfull\nlong\n": "what\nwhat\nwhat\nwhat\nwhat\n",
	} {
		wantRun(t, script, want)
	}
}

func TestDeskSpaces(t *testing.T) {
	first := "table t a:num\nput t a=7\n"
	for line, want := range map[string]string{
		" log":                   "table t a:num\n.\nput t a=7\n.\nend\n",
		"log ":                   "table t a:num\n.\nput t a=7\n.\nend\n",
		"   log   ":              "table t a:num\n.\nput t a=7\n.\nend\n",
		"  begin  ":              "fine\n",
		"  undo ":                "fine\n",
		"  rows     t  ":         "1 7\nend\n",
		"   shape  t ":           "a:num\nend\n",
		"find   t  a   7 ":       "1\nend\n",
		"  doomed t    1":        "t 1\nend\n",
		"  put   t    a=8   ":    "fine\n",
		"put t  a=8":             "fine\n",
		"put t a=8 ":             "fine\n",
		" put t a=8":             "fine\n",
		" off  t  1 ":            "fine\n",
		"  put  t ":              "fine\n",
		"table   u  k:num m:num": "fine\n",
		"set t   1   a=none  ":   "fine\n",
		" link  t  a  t  none  ": "link\n",
		// Within a word there is none.
		"put t a = 8":  "what\n",
		"put t a= 8":   "what\n",
		"put t a =8":   "what\n",
		"add t b: num": "what\n",
		"l og":         "what\n",
		"rowst":        "what\n",
		"beg in":       "what\n",
		"find t a 7 7": "what\n",
		"putt a=8":     "what\n",
	} {
		if got := behind(t, first, line); got != want {
			t.Errorf("%q answers %q, not %q", line, got, want)
		}
	}
}

// What is no space and no newline is of a word, and no word that is known has any of these.
func TestDeskOtherSigns(t *testing.T) {
	first := "table t a:num\nput t a=7\n"
	signs := []string{"\t", "\r", "\v", "\f", "\x00", "\x1f", "\x7f", "\u0085", "\u00a0", "\u1680", "\u2003", "\u2028", "\u3000", "\ufeff", "\ufffd", "\x80", "\xa0", "\xff", "\xc3", "\xe2\x80", "\xf4\x90\x80\x80", "é", ";", ",", "."}
	for _, sign := range signs {
		for _, line := range []string{"log" + sign, sign + "log", "rows" + sign + "t", "rows " + sign + "t", "rows t" + sign, "rows t " + sign, sign + " rows t", "put" + sign + "t a=8", "put t" + sign + "a=8", "put t a=8" + sign, "put t a=8 " + sign, sign + "begin", "begin " + sign, "doomed t 1" + sign, "find t a 7" + sign, sign, sign + sign, "shape " + sign, "off t " + sign + "1"} {
			if got := behind(t, first, line+"\nrows t"); got != "what\n1 7\nend\n" {
				t.Errorf("%q answers %q", line, got)
			}
		}
		if got := impl.DeskRun(sign); got != "what\n" {
			t.Errorf("DeskRun(%q) is %q", sign, got)
		}
	}
	// A newline ends a line whatever stands ahead of it.
	for _, broken := range []string{"\xc3", "\xe2\x80", "\xf0\x9f\x98", "\xff"} {
		wantRun(t, broken+"\nlog\n"+broken+" log\nlog", "what\nend\nwhat\nend\n")
		wantRun(t, "log "+broken+" \nlog", "what\nend\n")
	}
}

// Each of the kinds of chapter 5 is done, and stands in the log.
func TestDeskEachAct(t *testing.T) {
	wantTalk(t, `
		> table t a:num! b:text
		fine
		> table u k:num
		fine
		> link u k t none
		fine
		> put t a=1 b='12'
		fine
		> put t a=2 b='x'
		fine
		> put u k=1
		fine
		> set t 1 a=-9
		fine
		> off t 2
		fine
		> add t c:text!='q'
		fine
		> kind t b num
		fine
		> name t a aa
		fine
		> name u k m
		fine
		> drop t aa
		fine
		> rows t
		1 12 'q'
		end
		> rows u
		1 1
		end
		> shape t
		b:num
		c:text!='q'
		end
		> shape u
		m:num
		end
		> log
		table t a:num! b:text
		.
		table u k:num
		.
		link u k t none
		.
		put t a=1 b='12'
		.
		put t a=2 b='x'
		.
		put u k=1
		.
		set t 1 a=-9
		.
		off t 2
		.
		add t c:text!='q'
		.
		kind t b num
		.
		name t a aa
		.
		name u k m
		.
		drop t aa
		.
		end
		> off t 1
		fine
		> rows u
		1 none
		end
	`)
}

// Each word of how it ended: of an act alone, and of acts at once; the log is as it was but for fine.
func TestDeskEachEnd(t *testing.T) {
	first := "table t a:num!\ntable u k:num o:num^\ntable v k:num\nlink u k t stop\nlink v k t gone\nput t a=1\nput t a=2\nput u k=1 o=5\nput u k=2\nput v k=2\n"
	log := behind(t, first, "log")
	for line, want := range map[string]string{
		"put t a=3":              "fine",
		"off u 1":                "fine",
		"put t zz=1":             "form",
		"put t a='x'":            "form",
		"put t a=3 a=3":          "form",
		"table t a:num":          "form",
		"table w a:num a:num":    "form",
		"drop t zz":              "form",
		"link u k t gone":        "form",
		"put t":                  "need",
		"set t 1 a=none":         "need",
		"kind w s num":           "none",
		"put u o=5":              "once",
		"set u 2 o=5":            "once",
		"table w a:num":          "full",
		"off t 3":                "none",
		"put w":                  "none",
		"set t 0 a=1":            "none",
		"off t 60":               "none",
		"drop w a":               "none",
		"off t 1":                "held",
		"put u k=9":              "link",
		"link t a v stop":        "link",
		"drop u k":               "used",
		"kind v k text":          "used",
		"set t 61 a=1":           "what",
		"put t a=1000":           "what",
		"put t a='aaaaa'":        "what",
		"link t a v keep":        "what",
		"table w":                "what",
		"add t b:num b:num":      "what",
		"put tttt":               "what",
		"put t a=3 a=3 a=3 a=3":  "form",
		"put t a=4 a=3 b='' c=1": "form",
	} {
		if got := behind(t, first, line+"\n"); got != want+"\n" {
			t.Errorf("%q answers %q, not %s", line, got, want)
		}
		if got := behind(t, first+line+"\n", "log"); want != "fine" && got != log {
			t.Errorf("behind %q the log is %q", line, got)
		}
		if want == "what" {
			continue
		}
		if got := behind(t, first, "begin\n"+line+"\ncommit\n"); got != "fine\nheld\n"+want+"\n" {
			t.Errorf("%q is answered with %q between a begin and a commit", line, got)
		}
		// All or nothing, with something that can be done ahead of it and behind it.
		with := "begin\nadd t z:num\n" + line + "\nadd v z:num\ncommit\n"
		if got := behind(t, first, with); got != "fine\nheld\nheld\nheld\n"+want+"\n" {
			t.Errorf("%q answers %q", with, got)
		}
		if got := behind(t, first+with, "log"); want != "fine" && got != log {
			t.Errorf("behind %q the log is %q", with, got)
		}
	}
}

// One word alone is none of the lines that have more, and what ActRead does not read is no act.
func TestDeskNoLines(t *testing.T) {
	first := "table t a:num b:text\nput t a=7\n"
	for _, line := range []string{
		"table", "link", "put", "set", "off", "add", "drop", "name", "kind", "shape", "rows", "find", "doomed", "end", "fine", "what", "held", "t", "x", "'", "'t'", "none", "1", "-1", ".", "log.", "BEGIN", "Log", "UNDO", "begins", "commits", "redo", "help", "#", "# log", "//",
		"put t a=01", "put t a=-0", "put t a=+7", "put t a=1000", "put t a=00", "put t a=-07", "put t b=x", "put t b='x", "put t b=\"x\"", "put t b='X'", "put t a", "put t a=", "put t =7", "put T a=7",
		"set t 01 a=7", "set t -1 a=7", "set t a=7", "set t", "set t 61", "off t", "off t 01", "off t -1", "off t 1 1", "off t 61", "off t x", "off t '1'",
		"table u", "table u k", "table u k:", "table u k:int", "table u k:num^!", "table u k:num^=1", "table u k:num=01", "table u k:num=none", "table u k:num k:num k:num k:num k:num k:num", "table u k:num,", "table k:num",
		"link t a t", "link t a t stops", "link t a t stop stop", "link t a t 1", "add t", "add t c", "add t c:num d:num", "drop t", "drop t a b", "drop t 1", "name t a", "name t a b c", "name t a B", "kind t a", "kind t a num text", "kind t a int",
		"put t a=8 put t a=9", "begin put t a=8", "log log", "log t", "begin t", "commit t", "abort t", "undo t", "undo 1", "undo undo", "begin begin", "commit abort",
	} {
		if got := behind(t, first, line+"\nlog\nundo\nlog"); got != "what\ntable t a:num b:text\n.\nput t a=7\n.\nend\nfine\ntable t a:num b:text\n.\nend\n" {
			t.Errorf("%q answers %q", line, got)
		}
		// Between a begin and its end it is neither held, nor is it an end.
		if got := behind(t, first, "begin\nput t a=8\n"+line+"\nput t a=9\ncommit\nrows t"); got != "fine\nheld\nwhat\nheld\nfine\n1 7 none\n2 8 none\n3 9 none\nend\n" {
			t.Errorf("%q between a begin and a commit answers %q", line, got)
		}
	}
}

func TestDeskHeldMost(t *testing.T) {
	wantTalk(t, `
		> table t a:num
		fine
		> begin
		fine
		> put t a=1
		held
		> put t a=2
		held
		> put t a=3
		held
		> put t a=4
		held
		> put t a=5
		held
		> put t a=6
		held
		> put t a=7
		full
		> put t zz=7
		full
		> fly
		what
		> put t a=01
		what
		> begin
		what
		> rows t
		end
		> put t a=8
		full
		> commit
		fine
		> rows t
		1 1
		2 2
		3 3
		4 4
		5 5
		6 6
		end
		> begin
		fine
		> set t 1 a=9
		held
		> commit
		fine
		> undo
		fine
		> undo
		fine
		> rows t
		end
	`)
	// All held acts, and no others, are let go by an abort.
	wantRun(t, "table t a:num\nbegin\n"+strings.Repeat("put t\n", 8)+"abort\nbegin\nput t a=9\ncommit\nrows t", "fine\nfine\n"+strings.Repeat("held\n", 6)+"full\nfull\nfine\nfine\nheld\nfine\n1 9\nend\n")
}

func TestDeskLogMost(t *testing.T) {
	first := "table t a:num!\nput t a=2\nput t a=3\n" + strings.Repeat("put t a=1\nundo\nset t 1\n", 7)
	if got := behind(t, first, "log"); strings.Count(got, ".\n") != 10 {
		t.Fatalf("the log is %q", got)
	}
	first += strings.Repeat("set t 1\n", 5)
	log := behind(t, first, "log")
	if strings.Count(log, ".\n") != 15 {
		t.Fatalf("the log is %q", log)
	}
	for line, want := range map[string]string{
		"put t a=9":                         "full\n",
		"off t 1":                           "full\n",
		"add t b:num":                       "full\n",
		"table u a:num":                     "full\n",
		"begin\nput t a=9\ncommit":          "fine\nheld\nfull\n",
		"begin\noff t 1\nput t a=9\ncommit": "fine\nheld\nheld\nfull\n",
		// The codes of what can not be done stand ahead, and that of nothing.
		"put t":                "need\n",
		"put t zz=1":           "form\n",
		"off t 9":              "none\n",
		"begin\ncommit":        "fine\nform\n",
		"begin\nput u\ncommit": "fine\nheld\nnone\n",
	} {
		if got := behind(t, first, line+"\n"); got != want {
			t.Errorf("behind 15 times %q answers %q, not %q", line, got, want)
		}
		if got := behind(t, first+line+"\n", "log"); got != log {
			t.Errorf("behind 15 times and %q the log is %q, not %q", line, got, log)
		}
	}
	if got := behind(t, first, "undo\nput t a=9\nput t a=9\nundo\nundo\nadd t b:num\nadd t c:num\nadd t d:num"); got != "fine\nfine\nfull\nfine\nfine\nfine\nfine\nfull\n" {
		t.Errorf("behind undos of 15 times %q is answered", got)
	}
	wantRun(t, first+strings.Repeat("undo\n", 16)+"log", impl.DeskRun(first)+strings.Repeat("fine\n", 15)+"what\nend\n")
}

func TestDeskBeginAndItsEnds(t *testing.T) {
	// With no begin, and behind nothing done.
	wantTalk(t, `
		> commit
		what
		> abort
		what
		> undo
		what
		> log
		end
		> begin
		fine
		> begin
		what
		> undo
		what
		> log
		end
		> abort
		fine
		> abort
		what
		> commit
		what
		> undo
		what
	`)
	// A commit of no acts ends what was begun all the same.
	wantTalk(t, `
		> begin
		fine
		> commit
		form
		> commit
		what
		> undo
		what
		> table t a:num
		fine
		> begin
		fine
		> commit
		form
		> log
		table t a:num
		.
		end
		> put t a=1
		fine
		> rows t
		1 1
		end
	`)
	// Words too many are no begin and no end.
	wantTalk(t, `
		> begin now
		what
		> commit
		what
		> begin
		fine
		> table t a:num
		held
		> commit now
		what
		> abort now
		what
		> undo now
		what
		> log now
		what
		> table u a:num
		held
		> commit
		fine
		> log
		table t a:num
		table u a:num
		.
		end
		> undo now
		what
		> undo
		fine
		> log
		end
	`)
}

// What is held is not done yet: nothing that is asked tells of it, and nothing is asked of it ahead of its end.
func TestDeskWhatIsHeld(t *testing.T) {
	wantTalk(t, `
		> table t a:num^
		fine
		> put t a=1
		fine
		> begin
		fine
		> put t a=2
		held
		> put t a=2
		held
		> off t 1
		held
		> table t a:num
		held
		> off zzz 9
		held
		> add t b:num
		held
		> rows t
		1 1
		end
		> shape t
		a:num^
		end
		> find t a 2
		end
		> find t a 1
		1
		end
		> doomed t 1
		t 1
		end
		> doomed t 2
		end
		> log
		table t a:num^
		.
		put t a=1
		.
		end
		> shape u
		what
		> undo
		what
		> commit
		once
		> rows t
		1 1
		end
		> log
		table t a:num^
		.
		put t a=1
		.
		end
		> put t a=2
		fine
		> rows t
		1 1
		2 2
		end
	`)
	// A table that is held is not there yet.
	wantTalk(t, `
		> begin
		fine
		> table t a:num
		held
		> put t a=5
		held
		> rows t
		what
		> shape t
		what
		> find t a 5
		what
		> doomed t 1
		what
		> log
		end
		> commit
		fine
		> rows t
		1 5
		end
		> log
		table t a:num
		put t a=5
		.
		end
		> undo
		fine
		> rows t
		what
		> log
		end
	`)
}

func TestDeskBeginNotEnded(t *testing.T) {
	wantRun(t, "begin", "fine\n")
	wantRun(t, "begin\ntable t a:num", "fine\nheld\n")
	wantRun(t, "table t a:num\nbegin\nput t a=1\nput t a=2\n", "fine\nfine\nheld\nheld\n")
	wantRun(t, "table t a:num\nbegin\nput t a=1\nrows t\nlog", "fine\nfine\nheld\nend\ntable t a:num\n.\nend\n")
}

// Acts that are done at once can lean on one another, and go with one undo.
func TestDeskCommit(t *testing.T) {
	wantTalk(t, `
		> begin
		fine
		> table t a:num!
		held
		> table u k:num!
		held
		> link u k t gone
		held
		> put t a=1
		held
		> put u k=1
		held
		> commit
		fine
		> doomed t 1
		t 1
		u 1
		end
		> begin
		fine
		> put t a=2
		held
		> put u k=2
		held
		> off t 1
		held
		> commit
		fine
		> rows t
		2 2
		end
		> rows u
		2 2
		end
		> undo
		fine
		> rows t
		1 1
		end
		> rows u
		1 1
		end
		> undo
		fine
		> rows t
		what
		> undo
		what
	`)
}

// Behind an abort, and behind a commit that could not be done, all is as it was ahead of the begin, the next row's number with it.
func TestDeskNothingLeft(t *testing.T) {
	for _, end := range []string{"abort\n", "put t zz=1\ncommit\n", "put t a=none\ncommit\n"} {
		first := "table t a:num!\nput t a=1\nbegin\nput t a=5\noff t 1\nadd t b:num\n" + end
		if got := behind(t, first, "rows t\nshape t\nput t a=6\nrows t\ncommit\nabort\nundo\nundo\nundo\nlog"); got != "1 1\nend\na:num!\nend\nfine\n1 1\n2 6\nend\nwhat\nwhat\nfine\nfine\nfine\nend\n" {
			t.Errorf("behind %q is answered %q", first, got)
		}
	}
}

func TestDeskShape(t *testing.T) {
	first := "table t a:num! n:text^ d:text!='x' e:num=-7 f:text=''\ntable u k:num\n"
	for line, want := range map[string]string{
		"shape t":   "a:num!\nn:text^\nd:text!='x'\ne:num=-7\nf:text=''\nend\n",
		"shape u":   "k:num\nend\n",
		"shape":     "what\n",
		"shape t u": "what\n",
		"shape t t": "what\n",
		"shape v":   "what\n",
		"shape T":   "what\n",
		"shape tt":  "what\n",
		"shape a":   "what\n",
		"shape 't'": "what\n",
		"shape 1":   "what\n",
		"shape ttttttttttttttttttttttttttttttttttttttt":  "what\n",
		"drop t a\nshape t":                              "fine\nn:text^\nd:text!='x'\ne:num=-7\nf:text=''\nend\n",
		"kind t e text\nshape t":                         "fine\na:num!\nn:text^\nd:text!='x'\ne:text='-7'\nf:text=''\nend\n",
		"name u k zz\nadd u a:num^\nshape u":             "fine\nfine\nzz:num\na:num^\nend\n",
		"drop t a\nundo\nshape t":                        "fine\nfine\na:num!\nn:text^\nd:text!='x'\ne:num=-7\nf:text=''\nend\n",
		"begin\nadd u a:num\nshape u\ncommit\nshape u":   "fine\nheld\nk:num\nend\nfine\nk:num\na:num\nend\n",
		"drop u k\nshape u":                              "form\nk:num\nend\n",
		"begin\nname u k m\nshape u\nabort\nshape u":     "fine\nheld\nk:num\nend\nfine\nk:num\nend\n",
		"begin\nadd u a:num\ncommit\nundo\nshape u\nlog": "fine\nheld\nfine\nfine\nk:num\nend\n" + behind(t, first, "log"),
	} {
		if got := behind(t, first, line); got != want {
			t.Errorf("%q answers %q, not %q", line, got, want)
		}
	}
}

func TestDeskRows(t *testing.T) {
	first := "table t a:num b:text='x'\ntable u k:num\nput t a=1\nput t b=none\nput t a=-999 b='a-9'\noff t 2\nput t b=''\n"
	for line, want := range map[string]string{
		"rows t":                         "1 1 'x'\n3 -999 'a-9'\n4 none ''\nend\n",
		"rows u":                         "end\n",
		"rows":                           "what\n",
		"rows t u":                       "what\n",
		"rows t 1":                       "what\n",
		"rows v":                         "what\n",
		"rows a":                         "what\n",
		"rows T":                         "what\n",
		"drop t a\nrows t":               "fine\n1 'x'\n3 'a-9'\n4 ''\nend\n",
		"add t c:num=7\nrows t":          "fine\n1 1 'x' 7\n3 -999 'a-9' 7\n4 none '' 7\nend\n",
		"kind t a text\nrows t":          "fine\n1 '1' 'x'\n3 '-999' 'a-9'\n4 none ''\nend\n",
		"kind t b num\nrows t":           "fine\n1 1 none\n3 -999 none\n4 none none\nend\n",
		"put u\noff u 1\nrows u":         "fine\nfine\nend\n",
		"set t 3 a=0\nrows t":            "fine\n1 1 'x'\n3 0 'a-9'\n4 none ''\nend\n",
		"off t 3\noff t 1\nrows t":       "fine\nfine\n4 none ''\nend\n",
		"put t\nundo\nput t a=2\nrows t": "fine\nfine\nfine\n1 1 'x'\n3 -999 'a-9'\n4 none ''\n5 2 'x'\nend\n",
		"begin\nput u k=3\nrows u\ncommit\nrows u": "fine\nheld\nend\nfine\n1 3\nend\n",
	} {
		if got := behind(t, first, line); got != want {
			t.Errorf("%q answers %q, not %q", line, got, want)
		}
	}
}

func TestDeskFind(t *testing.T) {
	first := "table t a:num b:text\ntable u k:num\nput t a=7 b='7'\nput t a=7\nput t a=-7 b='-7'\nput t b=''\nput t a=0 b='none'\nput t b='7'\n"
	for line, want := range map[string]string{
		"find t a 7":      "1\n2\nend\n",
		"find t a -7":     "3\nend\n",
		"find t a 0":      "5\nend\n",
		"find t a 8":      "end\n",
		"find t a 999":    "end\n",
		"find t a none":   "4\n6\nend\n",
		"find t b none":   "2\nend\n",
		"find t b 'none'": "5\nend\n",
		"find t b '7'":    "1\n6\nend\n",
		"find t b ''":     "4\nend\n",
		"find t b '-7'":   "3\nend\n",
		// Of another kind than the column's.
		"find t a '7'": "end\n",
		"find t b 7":   "end\n",
		// Of no column.
		"find t c 7":    "end\n",
		"find t c none": "end\n",
		"find t A 7":    "end\n",
		"find t 7 a":    "what\n",
		"find t 7 7":    "end\n",
		// Of no rows, and of no table.
		"find u k 1":    "end\n",
		"find u k none": "end\n",
		"find v k 1":    "what\n",
		"find T a 7":    "what\n",
		"find v k x":    "what\n",
		// Of what is no value.
		"find t a 07":      "what\n",
		"find t a 00":      "what\n",
		"find t a -0":      "what\n",
		"find t a -07":     "what\n",
		"find t a +7":      "what\n",
		"find t a 7.":      "what\n",
		"find t a 1000":    "what\n",
		"find t a -1000":   "what\n",
		"find t a x":       "what\n",
		"find t b x":       "what\n",
		"find t b 'x":      "what\n",
		"find t b x'":      "what\n",
		"find t b '":       "what\n",
		"find t b 'X'":     "what\n",
		"find t b 'abcde'": "what\n",
		"find t b \"7\"":   "what\n",
		"find t a None":    "what\n",
		"find t c 07":      "what\n",
		// Words too few and too many.
		"find":             "what\n",
		"find t":           "what\n",
		"find t a":         "what\n",
		"find t a 7 7":     "what\n",
		"find t a 7 b '7'": "what\n",
		"find t a=7":       "what\n",
		"find t b ' '":     "what\n",
		// As they are, and behind a begin.
		"kind t a text\nfind t a '7'\nfind t a 7":                             "fine\n1\n2\nend\nend\n",
		"kind t b num\nfind t b 7\nfind t b none":                             "fine\n1\n6\nend\n2\n4\n5\nend\n",
		"name t a z\nfind t a 7\nfind t z 7":                                  "fine\nend\n1\n2\nend\n",
		"drop t a\nfind t a 7":                                                "fine\nend\n",
		"add t c:num=5\nfind t c 5":                                           "fine\n1\n2\n3\n4\n5\n6\nend\n",
		"set t 2 a=8\nfind t a 7\nundo\nfind t a 7":                           "fine\n1\nend\nfine\n1\n2\nend\n",
		"begin\noff t 1\nput t a=7\nfind t a 7\ncommit\nfind t a 7":           "fine\nheld\nheld\n1\n2\nend\nfine\n2\n7\nend\n",
		"begin\nname t a z\nfind t z 7\nfind t a 7\nabort\nfind t a -7\nundo": "fine\nheld\nend\n1\n2\nend\nfine\n3\nend\nfine\n",
	} {
		if got := behind(t, first, line); got != want {
			t.Errorf("%q answers %q, not %q", line, got, want)
		}
	}
}

func TestDeskDoomed(t *testing.T) {
	first := "begin\ntable v k:num\ntable t k:num m:num\ntable u k:num\nlink t k t gone\nlink u k t gone\nlink v k u stop\ncommit\nput t\nput t k=1\nput t k=2 m=1\nput u k=3\nput u k=1\nput v k=1\nput u\n"
	for line, want := range map[string]string{
		"doomed t 1": "t 1\nt 2\nt 3\nu 1\nu 2\nend\n",
		"doomed t 2": "t 2\nt 3\nu 1\nend\n",
		"doomed t 3": "t 3\nu 1\nend\n",
		"doomed u 1": "u 1\nend\n",
		"doomed u 3": "u 3\nend\n",
		"doomed v 1": "v 1\nend\n",
		// Rows that are not there.
		"doomed t 4":                  "end\n",
		"doomed t 0":                  "end\n",
		"doomed t -1":                 "end\n",
		"doomed t 61":                 "end\n",
		"doomed t 1000":               "end\n",
		"doomed v 2":                  "end\n",
		"doomed t 99999999999999999":  "end\n",
		"doomed t -99999999999999999": "end\n",
		"doomed t 10000000000000000":  "end\n",
		"doomed t 4294967297":         "end\n",
		"doomed t 12345678901234567":  "end\n",
		// What is no number.
		"doomed t 100000000000000000":           "what\n",
		"doomed t -100000000000000000":          "what\n",
		"doomed t 18446744073709551617":         "what\n",
		"doomed t 9223372036854775807":          "what\n",
		"doomed t 9223372036854775808":          "what\n",
		"doomed t -9223372036854775808":         "what\n",
		"doomed t 1" + strings.Repeat("0", 300): "what\n",
		"doomed t 00000000000000001":            "what\n",
		"doomed t 000000000000000001":           "what\n",
		"doomed t 01":                           "what\n",
		"doomed t 00":                           "what\n",
		"doomed t -0":                           "what\n",
		"doomed t -01":                          "what\n",
		"doomed t +1":                           "what\n",
		"doomed t --1":                          "what\n",
		"doomed t -":                            "what\n",
		"doomed t 1.0":                          "what\n",
		"doomed t 1_0":                          "what\n",
		"doomed t 0x1":                          "what\n",
		"doomed t 1e0":                          "what\n",
		"doomed t '1'":                          "what\n",
		"doomed t none":                         "what\n",
		"doomed t x":                            "what\n",
		"doomed t 1-":                           "what\n",
		"doomed t \u0661":                       "what\n",
		// Words too few and too many, and tables that are not there.
		"doomed":         "what\n",
		"doomed t":       "what\n",
		"doomed 1":       "what\n",
		"doomed t 1 1":   "what\n",
		"doomed t 1 t 2": "what\n",
		"doomed w 1":     "what\n",
		"doomed T 1":     "what\n",
		"doomed w 01":    "what\n",
		"doomed 1 t":     "what\n",
		// Behind changes, and behind a begin.
		"name t k zz\nname u k a\ndoomed t 2":                           "fine\nfine\nt 2\nt 3\nu 1\nend\n",
		"add t a:num=1\ndrop t m\ndoomed t 3":                           "fine\nfine\nt 3\nu 1\nend\n",
		"set t 1 k=3\ndoomed t 3\nundo\ndoomed t 3":                     "fine\nt 1\nt 2\nt 3\nu 1\nu 2\nend\nfine\nt 3\nu 1\nend\n",
		"begin\nset t 3 k=none\ndoomed t 1\ncommit\ndoomed t 1":         "fine\nheld\nt 1\nt 2\nt 3\nu 1\nu 2\nend\nfine\nt 1\nt 2\nu 2\nend\n",
		"off t 1\nbegin\noff v 1\noff t 1\ncommit\ndoomed t 1\nrows u":  "held\nfine\nheld\nheld\nfine\nend\n3 none\nend\n",
		"begin\noff v 1\nput t k=3\ndoomed t 4\nabort\noff u 1\nrows v": "fine\nheld\nheld\nend\nfine\nheld\n1 1\nend\n",
		"off u 3\ndoomed u 3\nundo\ndoomed u 3\nundo\nundo\ndoomed u 3": "fine\nend\nfine\nu 3\nend\nfine\nfine\nend\n",
	} {
		if got := behind(t, first, line); got != want {
			t.Errorf("%q answers %q, not %q", line, got, want)
		}
	}
}

func TestDeskLong(t *testing.T) {
	for script, want := range map[string]string{
		"log" + strings.Repeat(" ", 19997):                         "end\n",
		"log" + strings.Repeat(" ", 19998):                         "long\n",
		strings.Repeat(" ", 19997) + "log":                         "end\n",
		strings.Repeat(" ", 19998) + "log":                         "long\n",
		"log" + strings.Repeat("\n", 19997):                        "end\n",
		"log" + strings.Repeat("\n", 19998):                        "long\n",
		strings.Repeat("x", 20000):                                 "what\n",
		strings.Repeat("x", 20001):                                 "long\n",
		strings.Repeat("é", 10000):                                 "what\n",
		strings.Repeat("é", 10000) + " ":                           "long\n",
		strings.Repeat("\xff", 20000):                              "what\n",
		strings.Repeat("\xff", 20001):                              "long\n",
		strings.Repeat("\n", 20001):                                "long\n",
		"rows t" + strings.Repeat(" ", 20000):                      "long\n",
		strings.Repeat("log\n", 5000):                              strings.Repeat("end\n", 200) + "full\n",
		strings.Repeat("log\n", 5000) + "\n":                       "long\n",
		"table t a:num\nput t" + strings.Repeat(" a=1", 4990):      "fine\nwhat\n",
		"table t a:num\n" + strings.Repeat("put t a=1 ", 1998):     "fine\nwhat\n",
		"log\nbegin\nput" + strings.Repeat(" ", 19982) + "t a=1":   "end\nfine\nheld\n",
		"log\nbegin\nput" + strings.Repeat(" ", 19982) + "t a=1\n": "long\n",
		strings.Repeat("a ", 10000):                                "what\n",
		strings.Repeat(" a", 10000):                                "what\n",
		strings.Repeat("log ", 5000) + " ":                         "long\n",
		strings.Repeat("é", 20000):                                 "long\n",
		"log\n" + strings.Repeat("\x00", 200000):                   "long\n",
	} {
		if got := checkRun(t, script); got != want {
			t.Errorf("DeskRun of %d bytes, %.20q .., is %q, not %q", len(script), script, got, want)
		}
	}
}

func TestDeskLines(t *testing.T) {
	for _, c := range []struct {
		script string
		want   string
	}{
		{strings.Repeat("log\n", 199), strings.Repeat("end\n", 199)},
		{strings.Repeat("log\n", 200), strings.Repeat("end\n", 200)},
		{strings.Repeat("log\n", 201), strings.Repeat("end\n", 200) + "full\n"},
		{strings.Repeat("log\n", 199) + "log", strings.Repeat("end\n", 200)},
		{strings.Repeat("log\n", 200) + "log", strings.Repeat("end\n", 200) + "full\n"},
		{strings.Repeat("log\n", 200) + "log\nlog\nlog", strings.Repeat("end\n", 200) + "full\n"},
		{strings.Repeat("log\n", 200) + "x", strings.Repeat("end\n", 200) + "full\n"},
		// Lines without words count, and answer nothing, at the end as well.
		{strings.Repeat("\n", 199) + "log", "end\n"},
		{strings.Repeat("\n", 200) + "log", "full\n"},
		{strings.Repeat(" \n", 199) + " log\n", "end\n"},
		{strings.Repeat(" \n", 200) + " log\n", "full\n"},
		{strings.Repeat("\n", 300) + "x\ny", "full\n"},
		{strings.Repeat("\nlog\n", 100), strings.Repeat("end\n", 100)},
		{strings.Repeat("\nlog\n", 101), strings.Repeat("end\n", 100) + "full\n"},
		{strings.Repeat("log\n\n", 100) + "log", strings.Repeat("end\n", 100) + "full\n"},
		{strings.Repeat("log\n", 200) + strings.Repeat("\n", 500), strings.Repeat("end\n", 200)},
		{strings.Repeat("log\n", 200) + strings.Repeat(" \n", 500) + "log", strings.Repeat("end\n", 200) + "full\n"},
		{strings.Repeat("\n", 1000), ""},
		// Nothing is done by a line that is not answered, and no line behind it is.
		{"table t a:num\n" + strings.Repeat("\n", 199) + "put t\nlog", "fine\nfull\n"},
		{"begin\ntable t a:num\n" + strings.Repeat("x\n", 197) + "commit\nrows t", "fine\nheld\n" + strings.Repeat("what\n", 197) + "fine\nfull\n"},
		{"begin\ntable t a:num\n" + strings.Repeat("x\n", 198) + "commit\nrows t", "fine\nheld\n" + strings.Repeat("what\n", 198) + "full\n"},
	} {
		wantRun(t, c.script, c.want)
	}
}

// outOf is a script whose answer has that many bytes, the last of them in the answer to a line that answers many.
func outOf(t *testing.T, size int) string {
	t.Helper()
	word := "'abcd'"
	script := "table aaa a:text=" + word + " b:text=" + word + " c:text=" + word + " d:text=" + word + " e:text=" + word + "\n" + strings.Repeat("put aaa\n", 8)
	rows := len(behind(t, script, "rows aaa"))
	for left := size - len(impl.DeskRun(script)) - rows; left > 0; {
		line, n := "rows aaa\n", rows
		switch {
		case left >= rows+12:
		case left%5 == 0:
			line, n = "fly\n", 5
		default:
			line, n = "find aaa a 1\n", 4
		}
		script += line
		left -= n
	}
	script += "rows aaa\n"
	if got := len(impl.DeskRun(script)); got != size {
		t.Fatalf("%d bytes are answered, not %d", got, size)
	}
	if n := strings.Count(script, "\n"); n > 190 {
		t.Fatalf("%d lines answer %d bytes", n, size)
	}
	return script
}

func TestDeskOut(t *testing.T) {
	rows := ""
	for id := range 8 {
		rows += fmt.Sprint(id+1, strings.Repeat(" 'abcd'", 5), "\n")
	}
	rows += "end\n"
	for size, want := range map[int]string{
		19000: rows + "end\nfine\nwhat\n",
		19990: rows + "full\n",
		19996: rows + "full\n",
		19999: rows + "full\n",
		20000: rows + "full\n",
		20001: "full\n",
		20002: "full\n",
		20005: "full\n",
		20100: "full\n",
		20290: "full\n",
	} {
		first := outOf(t, size)
		if got := behind(t, first, "rows aaa\nfind aaa b 7\nundo\nfly"); got != want {
			t.Errorf("behind an answer of %d bytes is answered %q, not %q", size, got, want)
		}
		// Lines without words answer nothing there, either.
		if got := behind(t, first, " \n\n  "); got != "" {
			t.Errorf("behind an answer of %d bytes lines without words answer %q", size, got)
		}
	}
	// At just so many bytes one line more is answered, however short its answer.
	first := outOf(t, 20000)
	for line, want := range map[string]string{"fly": "what\n", "undo": "fine\n", "begin": "fine\n", "find aaa b 7": "end\n"} {
		if got := behind(t, first, line+"\n\nlog\nlog\nlog\n"); got != want+"full\n" {
			t.Errorf("behind 20000 bytes %q answers %q", line, got)
		}
		if got := behind(t, first, "\n"+line+"\n\n"); got != want {
			t.Errorf("behind 20000 bytes %q alone answers %q", line, got)
		}
	}
	checkCuts(t, first+"rows aaa\nrows aaa\nrows aaa")
}

// An answer that is full for want of room in a base or among what is held ends nothing.
func TestDeskFullOfOtherKinds(t *testing.T) {
	wantRun(t, "table a a:num\ntable b a:num\ntable c a:num\ntable d a:num\nrows a\nbegin\n"+strings.Repeat("put a\n", 7)+"commit\nfind a a none", "fine\nfine\nfine\nfull\nend\nfine\n"+strings.Repeat("held\n", 6)+"full\nfine\n1\n2\n3\n4\n5\n6\nend\n")
}

// Nothing is kept between two calls, and calls at once do not meet.
func TestDeskKeepsNothing(t *testing.T) {
	scripts := append(deskBeginnings(), "rows t", "undo", "commit", "log", "put t", "begin\ntable t a:num\nput t", "")
	var want []string
	for _, s := range scripts {
		want = append(want, impl.DeskRun(s))
	}
	var all sync.WaitGroup
	for i := range 8 {
		all.Go(func() {
			for j := range scripts {
				at := (i + j) % len(scripts)
				if got := impl.DeskRun(scripts[at]); got != want[at] {
					t.Errorf("DeskRun(%q) is %q, and was %q", scripts[at], got, want[at])
				}
			}
		})
	}
	all.Wait()
}
