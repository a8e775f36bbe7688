package tests

import (
	"fmt"
	"math"
	"regexp"
	"slices"
	"strings"
	"testing"

	"loop.example/custumal/impl"
)

func tableAct(name string, s ...impl.Col) impl.Act {
	return impl.Act{Kind: impl.ActTable, Name: name, Cols: s}
}

func linkAct(from string, col string, to string, how int) impl.Act {
	return impl.Act{Kind: impl.ActLink, Link: link(from, col, to, how)}
}

func putAct(name string, told ...impl.Set) impl.Act {
	return impl.Act{Kind: impl.ActPut, Name: name, Sets: told}
}

func setAct(name string, id int, told ...impl.Set) impl.Act {
	return impl.Act{Kind: impl.ActSet, Name: name, Id: id, Sets: told}
}

func offAct(name string, id int) impl.Act {
	return impl.Act{Kind: impl.ActOff, Name: name, Id: id}
}

func changeAct(name string, c impl.Change) impl.Act {
	return impl.Act{Kind: impl.ActChange, Name: name, Change: c}
}

// actWhole tells all parts of what is done, so that two of them can be held against each other without the program; no list and an empty one are told alike.
func actWhole(a impl.Act) string { return fmt.Sprintf("%+v", a) }

func copyOfAct(a impl.Act) impl.Act {
	a.Sets, a.Cols = slices.Clone(a.Sets), slices.Clone(a.Cols)
	return a
}

// actForm is all texts of what is done, told anew from the document's words.
var actForm = func() *regexp.Regexp {
	form := `\A(table N( C){1,5}|link N N N (stop|gone|none)|put N( N=V){0,5}|set N I( N=V){0,5}|off N I|add N C|drop N N|name N N N|kind N N (num|text))\z`
	for _, part := range [][2]string{
		{"C", `N:(num!?(\^|=D)?|text!?(\^|=T)?)`}, {"V", `(none|D|T)`}, {"N", `[a-z]{1,3}`},
		{"D", `(0|-?[1-9][0-9]{0,2})`}, {"T", `'[a-z0-9-]{0,4}'`}, {"I", `(0|[1-9]|[1-5][0-9]|60)`},
	} {
		form = strings.ReplaceAll(form, part[0], part[1])
	}
	return regexp.MustCompile(form)
}()

// toldAct is what is done, and its text.
type toldAct struct {
	act  impl.Act
	text string
}

// rightActs are ok: each Kind, each Kind of a change, and their edges.
func rightActs() []toldAct {
	both := impl.Col{Name: "n", Kind: impl.KindText, Need: true, Once: true}
	five := sets(is("a", num(1)), is("b", text("x")), is("c", none), is("d", num(-5)), is("e", text("")))
	return []toldAct{
		{tableAct("t", numCol("a")), "table t a:num"},
		{tableAct("abc", textCol("xyz")), "table abc xyz:text"},
		{tableAct("t", three()...), "table t a:num!=7 bb:text='x' ccc:num^"},
		{tableAct("t", both, impl.Col{Name: "m", Kind: impl.KindNum, Need: true, Once: true}), "table t n:text!^ m:num!^"},
		{tableAct("t", colsOf(5)...), "table t a:num b:num c:num d:num e:num"},
		{tableAct("t", numCol("a"), numCol("a")), "table t a:num a:num"},
		{tableAct("t", slices.Repeat([]impl.Col{textCol("a")}, 5)...), "table t a:text a:text a:text a:text a:text"},
		{tableAct("t", impl.Col{Name: "a", Kind: impl.KindText, Def: text("")}), "table t a:text=''"},
		{tableAct("t", impl.Col{Name: "a", Kind: impl.KindText, Need: true, Def: text("ab-9")}), "table t a:text!='ab-9'"},
		{tableAct("num", numCol("num"), textCol("no")), "table num num:num no:text"},
		{linkAct("u", "k", "t", impl.HowStop), "link u k t stop"},
		{linkAct("u", "k", "t", impl.HowGone), "link u k t gone"},
		{linkAct("abc", "def", "abc", impl.HowNone), "link abc def abc none"},
		{putAct("t"), "put t"},
		{putAct("abc", is("abc", num(999))), "put abc abc=999"},
		{putAct("t", is("a", num(-999)), is("b", num(100)), is("c", num(0))), "put t a=-999 b=100 c=0"},
		{putAct("t", is("a", text("")), is("b", text("abcd")), is("c", text("none")), is("d", text("-05"))), "put t a='' b='abcd' c='none' d='-05'"},
		{putAct("t", is("a", none)), "put t a=none"},
		{putAct("t", is("a", num(1)), is("a", num(2)), is("a", num(1))), "put t a=1 a=2 a=1"},
		{putAct("t", five...), "put t a=1 b='x' c=none d=-5 e=''"},
		{putAct("t", slices.Repeat(sets(is("a", none)), 5)...), "put t a=none a=none a=none a=none a=none"},
		{setAct("t", 0), "set t 0"},
		{setAct("t", 60), "set t 60"},
		{setAct("abc", 9, is("abc", text("a"))), "set abc 9 abc='a'"},
		{setAct("t", 10, five...), "set t 10 a=1 b='x' c=none d=-5 e=''"},
		{setAct("t", 7, is("a", none), is("a", none)), "set t 7 a=none a=none"},
		{offAct("t", 0), "off t 0"},
		{offAct("abc", 60), "off abc 60"},
		{offAct("t", 12), "off t 12"},
		{changeAct("t", add(numCol("a"))), "add t a:num"},
		{changeAct("abc", add(both)), "add abc n:text!^"},
		{changeAct("t", add(impl.Col{Name: "a", Kind: impl.KindNum, Need: true})), "add t a:num!"},
		{changeAct("t", add(impl.Col{Name: "a", Kind: impl.KindNum, Need: true, Def: num(-12)})), "add t a:num!=-12"},
		{changeAct("t", drop("abc")), "drop t abc"},
		{changeAct("abc", drop("t")), "drop abc t"},
		{changeAct("t", rename("a", "b")), "name t a b"},
		{changeAct("abc", rename("def", "def")), "name abc def def"},
		{changeAct("t", retype("a", impl.KindNum)), "kind t a num"},
		{changeAct("abc", retype("def", impl.KindText)), "kind abc def text"},
		{changeAct("t", retype("num", impl.KindText)), "kind t num text"},
	}
}

// manyActs are ok: each column and each value, at each of the places that it can have.
func manyActs() []impl.Act {
	var list []impl.Act
	for _, name := range []string{"a", "zz", "abc", "num", "put"} {
		for _, kind := range []int{impl.KindNum, impl.KindText} {
			for marks := range 4 {
				c := impl.Col{Name: name, Kind: kind, Need: marks&1 > 0, Once: marks&2 > 0}
				for _, def := range rightVals() {
					if def.Kind != impl.KindNone && (def.Kind != kind || c.Once) || name != "a" && def.N%37 != 0 {
						continue
					}
					c.Def = def
					list = append(list, tableAct(name, c), tableAct("t", numCol("x"), c), tableAct("t", c, c), changeAct(name, add(c)))
				}
			}
		}
		for _, v := range rightVals() {
			list = append(list, putAct("t", is(name, v)), setAct(name, 5, is("x", num(1)), is(name, v), is("x", num(1))))
		}
		for id := range 61 {
			list = append(list, offAct(name, id), setAct(name, id), setAct(name, id, is("a", num(id))))
		}
		for _, other := range []string{"a", "ab", "abc", "gone"[:3], "non"} {
			for how := 1; how <= 3; how++ {
				list = append(list, linkAct(name, other, "t", how), linkAct("t", name, other, how), linkAct(other, "t", name, how))
			}
			list = append(list, changeAct(name, drop(other)), changeAct(name, rename("x", other)), changeAct("t", rename(name, other)), changeAct(name, retype(other, 1)), changeAct(name, retype(other, 2)))
		}
	}
	return list
}

func TestActBounds(t *testing.T) {
	if impl.ActTable != 1 || impl.ActLink != 2 || impl.ActPut != 3 || impl.ActSet != 4 || impl.ActOff != 5 || impl.ActChange != 6 || impl.ActMost != 6 {
		t.Error("a constant is another one than the document's")
	}
}

// wantText asks that what is done is ok, has that text, and is read from it as it was: promise 7.
func wantText(t *testing.T, a impl.Act, text string) {
	t.Helper()
	if !impl.ActOk(a) {
		t.Errorf("ActOk(%+v) is false", a)
	}
	if got := impl.ActText(a); got != text {
		t.Errorf("ActText(%+v) is %q, not %q", a, got, text)
	}
	if got, ok := impl.ActRead(text); !ok || actWhole(got) != actWhole(a) {
		t.Errorf("ActRead(%q) is %+v, %v, not %+v", text, got, ok, a)
	}
}

func TestPromise7EachKind(t *testing.T) {
	for _, x := range rightActs() {
		wantText(t, x.act, x.text)
		if !actForm.MatchString(x.text) {
			t.Errorf("%q is not told by the document's words", x.text)
		}
	}
}

// Promise 7: no two that are not the same have one text, and each text is one that the document's words tell.
func TestPromise7ReadAsItWas(t *testing.T) {
	seen := map[string]string{}
	for _, a := range manyActs() {
		s := impl.ActText(a)
		if !actForm.MatchString(s) {
			t.Errorf("ActText(%+v) is %q", a, s)
		}
		if other, there := seen[s]; there && other != actWhole(a) {
			t.Errorf("%s and %+v have one text %q", other, a, s)
		}
		seen[s] = actWhole(a)
		wantText(t, a, s)
	}
}

func TestActOkEmptyLists(t *testing.T) {
	for _, x := range rightActs() {
		a := copyOfAct(x.act)
		if len(a.Sets) == 0 {
			a.Sets = []impl.Set{}
		}
		if len(a.Cols) == 0 {
			a.Cols = []impl.Col{}
		}
		wantText(t, a, x.text)
	}
}

// edit is something that is turned in what is done, and the part that it is turned in.
type edit struct {
	part string
	do   func(a *impl.Act)
}

// edits turn each part that what is done may have.
func edits() []edit {
	return []edit{
		{"Name", func(a *impl.Act) { a.Name = "z" }},
		{"Name", func(a *impl.Act) { a.Name = "Z!" }},
		{"Id", func(a *impl.Act) { a.Id = 1 }},
		{"Id", func(a *impl.Act) { a.Id = 60 }},
		{"Id", func(a *impl.Act) { a.Id = -1 }},
		{"Sets", func(a *impl.Act) { a.Sets = sets(is("a", num(1))) }},
		{"Sets", func(a *impl.Act) { a.Sets = make([]impl.Set, 1) }},
		{"Cols", func(a *impl.Act) { a.Cols = colsOf(1) }},
		{"Cols", func(a *impl.Act) { a.Cols = make([]impl.Col, 1) }},
		{"Change.Kind", func(a *impl.Act) { a.Change.Kind = impl.ChangeDrop }},
		{"Change.Kind", func(a *impl.Act) { a.Change.Kind = -1 }},
		{"Change.Name", func(a *impl.Act) { a.Change.Name = "a" }},
		{"Change.Name", func(a *impl.Act) { a.Change.Name = "?" }},
		{"Change.New", func(a *impl.Act) { a.Change.New = "a" }},
		{"Change.New", func(a *impl.Act) { a.Change.New = " " }},
		{"Change.Col", func(a *impl.Act) { a.Change.Col = numCol("a") }},
		{"Change.Col.Name", func(a *impl.Act) { a.Change.Col.Name = "a" }},
		{"Change.Col.Kind", func(a *impl.Act) { a.Change.Col.Kind = impl.KindText }},
		{"Change.Col.Kind", func(a *impl.Act) { a.Change.Col.Kind = -1 }},
		{"Change.Col.Need", func(a *impl.Act) { a.Change.Col.Need = true }},
		{"Change.Col.Once", func(a *impl.Act) { a.Change.Col.Once = true }},
		{"Change.Col.Def", func(a *impl.Act) { a.Change.Col.Def = num(0) }},
		{"Change.Col.Def", func(a *impl.Act) { a.Change.Col.Def = text("") }},
		{"Change.Col.Def", func(a *impl.Act) { a.Change.Col.Def.N = 1 }},
		{"Change.Col.Def", func(a *impl.Act) { a.Change.Col.Def.Text = "a" }},
		{"Link", func(a *impl.Act) { a.Link = link("t", "k", "t", impl.HowStop) }},
		{"Link.From", func(a *impl.Act) { a.Link.From = "t" }},
		{"Link.Col", func(a *impl.Act) { a.Link.Col = "k" }},
		{"Link.To", func(a *impl.Act) { a.Link.To = "t" }},
		{"Link.How", func(a *impl.Act) { a.Link.How = impl.HowStop }},
		{"Link.How", func(a *impl.Act) { a.Link.How = -1 }},
	}
}

// namedParts is what the document names for what is done.
func namedParts(a impl.Act) string {
	switch a.Kind {
	case impl.ActTable:
		return "Name Cols"
	case impl.ActLink:
		return "Link Link.From Link.Col Link.To Link.How"
	case impl.ActPut:
		return "Name Sets"
	case impl.ActSet:
		return "Name Id Sets"
	case impl.ActOff:
		return "Name Id"
	}
	switch a.Change.Kind {
	case impl.ChangeAdd:
		return "Name Change.Kind Change.Col Change.Col.Name Change.Col.Kind Change.Col.Need Change.Col.Once Change.Col.Def"
	case impl.ChangeDrop:
		return "Name Change.Kind Change.Name"
	case impl.ChangeName:
		return "Name Change.Kind Change.Name Change.New"
	}
	return "Name Change.Kind Change.Name Change.Col.Kind"
}

// wrongActs are not ok, each for a reason of its own.
func wrongActs() map[string]impl.Act {
	list := map[string]impl.Act{"nothing": {}}
	for _, x := range rightActs() {
		named := strings.Fields(namedParts(x.act))
		for i, e := range edits() {
			if !slices.Contains(named, e.part) {
				a := copyOfAct(x.act)
				e.do(&a)
				list[fmt.Sprintf("%s, and %s told by the edit %d", x.text, e.part, i)] = a
			}
		}
		for _, kind := range []int{0, 7, -1, math.MinInt, math.MaxInt} {
			a := copyOfAct(x.act)
			a.Kind = kind
			list[fmt.Sprintf("%s, and the Kind %d", x.text, kind)] = a
		}
		for _, kind := range []int{0, 5, -1, math.MinInt, math.MaxInt} {
			if a := copyOfAct(x.act); a.Kind == impl.ActChange {
				a.Change.Kind = kind
				list[fmt.Sprintf("%s, and the change's Kind %d", x.text, kind)] = a
			}
		}
		for kind := 1; kind <= 4; kind++ {
			if a := copyOfAct(x.act); a.Kind == impl.ActChange && a.Change.Kind != kind && !(kind == impl.ChangeDrop && a.Change == drop(a.Change.Name)) {
				a.Change.Kind = kind
				list[fmt.Sprintf("%s, and the change's Kind %d", x.text, kind)] = a
			}
		}
	}
	for i, name := range []string{"", "abcd", "A", "aB", "1", "a1", "-", "a b", " ", "a ", " a", "'", "=", "a:", "é", "a\xff", "\xff", "\x00", "a\n", "`", "{"} {
		wrongNames(list, fmt.Sprintf("the name %d", i), name)
	}
	wrongSetsAndCols(list)
	for _, n := range []int{-1, 61, 62, 999, math.MinInt, math.MaxInt} {
		list[fmt.Sprintf("set %d", n)] = setAct("t", n)
		list[fmt.Sprintf("set %d and a value", n)] = setAct("t", n, is("a", num(1)))
		list[fmt.Sprintf("off %d", n)] = offAct("t", n)
	}
	for _, n := range []int{-1, 0, 3, 4, 5, math.MinInt, math.MaxInt} {
		if n != impl.HowNone {
			list[fmt.Sprintf("link %d", n)] = linkAct("u", "k", "t", n)
		}
		list[fmt.Sprintf("kind %d", n)] = changeAct("t", retype("a", n))
	}
	return list
}

// wrongNames are acts with what is no name at each place of a name.
func wrongNames(list map[string]impl.Act, what string, name string) {
	for i, a := range []impl.Act{
		tableAct(name, numCol("a")), tableAct("t", numCol(name)), tableAct("t", numCol("a"), numCol(name)),
		linkAct(name, "k", "t", impl.HowStop), linkAct("u", name, "t", impl.HowGone), linkAct("u", "k", name, impl.HowNone),
		putAct(name), putAct("t", is(name, num(1))), putAct("t", is("a", num(1)), is(name, none)),
		setAct(name, 1), setAct("t", 1, is(name, num(1))), setAct("t", 1, is("a", num(1)), is(name, none)),
		offAct(name, 1), changeAct(name, add(numCol("a"))), changeAct("t", add(numCol(name))),
		changeAct(name, drop("a")), changeAct("t", drop(name)),
		changeAct(name, rename("a", "b")), changeAct("t", rename(name, "b")), changeAct("t", rename("a", name)),
		changeAct(name, retype("a", impl.KindNum)), changeAct("t", retype(name, impl.KindText)),
	} {
		list[fmt.Sprintf("%s at the place %d", what, i)] = a
	}
}

// wrongSetsAndCols are acts with values and columns that are not ok, and with too few or too many of them.
func wrongSetsAndCols(list map[string]impl.Act) {
	for i, v := range wrongVals() {
		list[fmt.Sprintf("put the value %d", i)] = putAct("t", is("a", v))
		list[fmt.Sprintf("put the value %d behind others", i)] = putAct("t", is("a", num(1)), is("b", none), is("c", v))
		list[fmt.Sprintf("set the value %d", i)] = setAct("t", 1, is("a", v))
		list[fmt.Sprintf("set the value %d ahead of others", i)] = setAct("t", 1, is("a", v), is("b", num(1)))
	}
	for i, c := range wrongCols() {
		list[fmt.Sprintf("table of the column %d", i)] = tableAct("t", c)
		list[fmt.Sprintf("table of the column %d behind others", i)] = tableAct("t", numCol("x"), textCol("y"), c)
		list[fmt.Sprintf("table of the column %d ahead of others", i)] = tableAct("t", c, numCol("x"))
		list[fmt.Sprintf("add of the column %d", i)] = changeAct("t", add(c))
	}
	for _, n := range []int{6, 7, 60} {
		list[fmt.Sprintf("%d values put", n)] = putAct("t", slices.Repeat(sets(is("a", num(1))), n)...)
		list[fmt.Sprintf("%d values set", n)] = setAct("t", 1, slices.Repeat(sets(is("a", num(1))), n)...)
		list[fmt.Sprintf("%d columns", n)] = tableAct("t", slices.Repeat([]impl.Col{numCol("a")}, n)...)
	}
	list["no columns"] = tableAct("t")
	list["no column"] = changeAct("t", add(impl.Col{}))
}

func TestActOkWrong(t *testing.T) {
	b := chain()
	for what, a := range wrongActs() {
		if impl.ActOk(a) {
			t.Errorf("%s: ActOk(%+v) is true", what, a)
		}
		if got := impl.ActText(a); got != "" {
			t.Errorf("%s: ActText(%+v) is %q", what, a, got)
		}
		got, code := impl.ActDo(b, a)
		wantBase(t, what, b, got, code, b, impl.TabForm)
	}
}

// wantNoAct asks that a text is of nothing that is done.
func wantNoAct(t *testing.T, text string) {
	t.Helper()
	if got, ok := impl.ActRead(text); ok || actWhole(got) != actWhole(impl.Act{}) {
		t.Errorf("ActRead(%q) is %+v, %v", text, got, ok)
	}
}

func TestActReadWrong(t *testing.T) {
	for _, s := range []string{
		"", " ", "  ", "\n", "none", "fly", "fly t", "t", "Put t", "PUT t", "putt t", "pu t", "'put' t",
		"table", "table ", "table t", "table t ", "table a:num", "table t a", "table t a:", "table t :num", "table t a:num:", "table t a::num", "table t a:fly", "table t a:Num", "table t a:nu", "table t a:numm", "table t a:none",
		"table t a:num!!", "table t a:num^^", "table t a:num^!", "table t a:num!^!", "table t a:!num", "table t a:nu!m", "table t a!:num", "table t !a:num", "table t a: num", "table t a:num !", "table t a:num!^=1", "table t a:num^=1", "table t a:text^=''", "table t a:text!^='x'",
		"table t a:num=", "table t a:num=none", "table t a:text=none", "table t a:num!=none", "table t a:num='x'", "table t a:num='1'", "table t a:text=1", "table t a:text=x", "table t a:num=01", "table t a:num=+1", "table t a:num=-0", "table t a:num=1000", "table t a:num=-1000", "table t a:text='abcde'", "table t a:num==1", "table t a:num=1=1", "table t a:num=1!", "table t a:num=1^", "table t a:text='x'!", "table t a:text='!'", "table t a:text='x", "table t =1",
		"table t a:num b:num c:num d:num e:num f:num", "table abcd a:num", "table t abcd:num", "table T a:num", "table t a:num b", "table t a=1",
		"link", "link u", "link u k", "link u k t", "link u k t fly", "link u k t Stop", "link u k t 1", "link u k t stop stop", "link u k t 'none'", "link u k t stop ", "link u  t stop", "link u k abcd stop", "link abcd k t stop", "link u k1 t stop", "link  k t stop",
		"put", "put ", "put abcd", "put t a", "put t =1", "put t a=", "put t a==1", "put t a=1=2", "put t a= 1", "put t a =1", "put t a=01", "put t a=-0", "put t a=+1", "put t a=1000", "put t a=-1000", "put t a=None", "put t a=x", "put t a='x", "put t a=x'", "put t a=\"x\"", "put t a='abcde'", "put t a='A'", "put t a=''x''", "put t abcd=1", "put t A=1", "put t a:num", "put t a=1 b=1 c=1 d=1 e=1 f=1", "put t a=1,b=2", "put t 1",
		"set", "set t", "set t ", "set t x", "set t a=1", "set t  a=1", "set t -1", "set t -0", "set t +1", "set t 01", "set t 00", "set t 61", "set t 100", "set t 999", "set t 1000", "set t 1.", "set t '1'", "set t none", "set t 1 2", "set t 18446744073709551617", "set t 4294967297", "set t 1 a", "set t 1 a=01", "set abcd 1", "set t 1 a=1 b=1 c=1 d=1 e=1 f=1", "set 1 t", "set t 1 1=a",
		"off", "off t", "off t ", "off t x", "off t -1", "off t 01", "off t 61", "off t 1 1", "off t 1 ", "off t 1 a=1", "off abcd 1", "off t none", "off 1 t", "off t 18446744073709551617",
		"add", "add t", "add t a", "add t a:num b:num", "add t a:num ", "add t a:fly", "add abcd a:num", "add t abcd:num", "add t a:num^!", "add t a:num^=1",
		"drop", "drop t", "drop t ", "drop t c d", "drop t abcd", "drop abcd c", "drop t 1", "drop t a:num", "drop t a=1",
		"name", "name t", "name t a", "name t a ", "name t  a", "name t a b c", "name t a abcd", "name t abcd a", "name abcd a b", "name t a B",
		"kind", "kind t", "kind t a", "kind t a ", "kind t a fly", "kind t a none", "kind t a num num", "kind t a num!", "kind t abcd num", "kind abcd a num", "kind t a:num", "kind t a Num", "kind t a 1", "kind t num",
	} {
		if actForm.MatchString(s) {
			t.Errorf("%q is told by the document's words", s)
		}
		wantNoAct(t, s)
	}
	long := strings.Repeat("x", 100000)
	for _, s := range []string{long, "put " + long, "put t " + long, "put t a='" + long, "table t a:" + long, "off t " + strings.Repeat("0", 100000), "off t 1" + strings.Repeat("0", 100000), "put t" + strings.Repeat(" a=1", 100000), "table t" + strings.Repeat(" a:num", 100000), strings.Repeat(" ", 100000)} {
		wantNoAct(t, s)
	}
}

// checkRead holds what is read from a text against the document's words.
func checkRead(t *testing.T, s string) {
	t.Helper()
	if !actForm.MatchString(s) {
		wantNoAct(t, s)
		return
	}
	if a, ok := impl.ActRead(s); !ok || !impl.ActOk(a) || impl.ActText(a) != s {
		t.Errorf("ActRead(%q) is %+v, %v", s, a, ok)
	}
}

// Promise 7: what is read from a text has that text, and there is none for a text that is not written so: at each byte of right texts that is turned, left out or put in.
func TestPromise7EveryByte(t *testing.T) {
	t.Parallel()
	for _, x := range rightActs() {
		s := x.text
		for at := range len(s) + 1 {
			for b := range 256 {
				one := string([]byte{byte(b)})
				checkRead(t, s[:at]+one+s[at:])
				if at < len(s) {
					checkRead(t, s[:at]+one+s[at+1:])
				}
			}
			for _, more := range []string{"  ", " a", " a=1", " a:num", "!^", "^!", "=1", "\r\n", "é", "\u00a0", "\u2003", "\u0661"} {
				checkRead(t, s[:at]+more+s[at:])
			}
			checkRead(t, s[:at])
			checkRead(t, s[at:])
			if at < len(s) {
				checkRead(t, s[:at]+s[at+1:])
			}
		}
	}
}

// Promise 7: each short text of the words that matter.
func TestPromise7EveryFewWords(t *testing.T) {
	t.Parallel()
	words := []string{"table", "link", "put", "set", "off", "add", "drop", "name", "kind", "fly", "", "t", "abc", "abcd", "0", "60", "61", "01", "none", "stop", "num", "text", "a:num", "a:text!^", "a:num^=1", "a=1", "a='x'"}
	var grow func(s string, left int)
	grow = func(s string, left int) {
		checkRead(t, s)
		if left == 0 {
			return
		}
		for _, w := range words {
			grow(s+" "+w, left-1)
		}
	}
	for _, verb := range words {
		left := 3
		if verb == "link" {
			left = 4
		}
		grow(verb, left)
	}
}

// Promise 7: each short run of marks behind a column's kind.
func TestPromise7EveryMark(t *testing.T) {
	everyText([]string{"!", "^", "=", "1", "-", "'", "''", "none", ":", "num"}, 4, func(s string) {
		for _, head := range []string{"add t a", "add t a:num", "table t b:text a:text"} {
			checkRead(t, head+s)
		}
	})
	everyText([]string{"=", "1", "0", "-", "'", "a", "none", ":"}, 5, func(s string) {
		checkRead(t, "put t a"+s)
		checkRead(t, "set t 6"+s)
	})
}
