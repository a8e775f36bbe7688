package tests

import (
	"fmt"
	"slices"
	"testing"

	"loop.example/custumal/impl"
)

// plainDo is the function of chapter 4 that what is done names by its Kind.
func plainDo(b impl.Base, a impl.Act) (impl.Base, int) {
	switch a.Kind {
	case impl.ActTable:
		return impl.BaseTable(b, a.Name, a.Cols)
	case impl.ActLink:
		return impl.BaseLink(b, a.Link)
	case impl.ActPut:
		return impl.BasePut(b, a.Name, a.Sets)
	case impl.ActSet:
		return impl.BaseSet(b, a.Name, a.Id, a.Sets)
	case impl.ActOff:
		return impl.BaseOff(b, a.Name, a.Id)
	}
	return impl.BaseChange(b, a.Name, a.Change)
}

// plainAll is acts done one behind the other, told anew from the document's words: the base, the code and the place.
func plainAll(b impl.Base, acts []impl.Act) (impl.Base, int, int) {
	if len(acts) > 6 {
		return b, impl.TabFull, 0
	}
	now := b
	for i, a := range acts {
		if !impl.ActOk(a) {
			return b, impl.TabForm, i
		}
		next, code := plainDo(now, a)
		if code != impl.TabFine {
			return b, code, i
		}
		now = next
	}
	return now, impl.TabFine, len(acts)
}

// actBases are right bases at which each Kind of what is done can come to each of its codes.
func actBases() map[string]impl.Base {
	list := rightBases()
	list["what must be there, and once"] = needy()
	list["eight changes"] = impl.Base{Tabs: tabs(impl.Tab{Name: "t", Table: changesOf(8)})}
	list["no number"] = impl.Base{Tabs: tabs(impl.Tab{Name: "t", Table: impl.Table{First: []impl.Col{needCol("a")}, Rows: []impl.Row{{Id: 1, Vals: vals(text("x"))}}, Next: 2}})}
	list["rich"] = impl.Base{Tabs: tabs(impl.Tab{Name: "t", Table: rich()}, keys("u"))}
	return list
}

// someActs are ok, and most can be done to one base and not to another.
func someActs() []impl.Act {
	list := []impl.Act{
		tableAct("t", numCol("k"), numCol("m")), tableAct("u", numCol("k"), numCol("m")), tableAct("v", onceCol("k"), textCol("s")), tableAct("w", numCol("k")), tableAct("v", numCol("k"), numCol("k")),
		tableAct("u", impl.Col{Name: "k", Kind: impl.KindNum, Need: true}, impl.Col{Name: "m", Kind: impl.KindText, Need: true, Once: true}),
		putAct("w"), setAct("w", 1), offAct("w", 1), changeAct("w", drop("k")),
	}
	for _, name := range []string{"t", "u", "v"} {
		list = append(list,
			linkAct(name, "k", "t", impl.HowGone), linkAct(name, "k", "t", impl.HowStop), linkAct(name, "m", "t", impl.HowNone), linkAct(name, "m", "u", impl.HowStop), linkAct("t", "k", name, impl.HowNone), linkAct(name, "s", "t", impl.HowGone),
			putAct(name), putAct(name, is("k", num(1))), putAct(name, is("k", num(2)), is("m", num(1))), putAct(name, is("k", num(60))), putAct(name, is("k", text("1"))), putAct(name, is("k", num(1)), is("k", num(1))), putAct(name, is("a", text("y"))),
			changeAct(name, add(numCol("m"))), changeAct(name, add(impl.Col{Name: "n", Kind: impl.KindNum, Need: true})), changeAct(name, add(impl.Col{Name: "n", Kind: impl.KindText, Need: true, Def: text("q")})),
			changeAct(name, drop("k")), changeAct(name, drop("m")), changeAct(name, rename("k", "n")), changeAct(name, rename("n", "k")), changeAct(name, rename("a", "a")), changeAct(name, retype("k", impl.KindText)), changeAct(name, retype("m", impl.KindText)), changeAct(name, retype("a", impl.KindNum)))
		for id := range 4 {
			list = append(list, offAct(name, id), setAct(name, id), setAct(name, id, is("k", num(id))), setAct(name, id, is("m", num(1))), setAct(name, id, is("k", none), is("m", none)), setAct(name, id, is("k", num(60))), setAct(name, id, is("zz", none)))
		}
	}
	return list
}

// ActDo is the function that a Kind names, with each code that this one can tell.
func TestActDo(t *testing.T) {
	seen := map[string]int{}
	for what, b := range actBases() {
		was := baseText(b)
		for _, a := range someActs() {
			got, code := impl.ActDo(b, a)
			want, wantCode := plainDo(b, a)
			wantBase(t, fmt.Sprintf("%s: %s", what, impl.ActText(a)), b, got, code, want, wantCode)
			if baseText(b) != was {
				t.Fatalf("%s: %s: the argument was %s, and is %+v", what, impl.ActText(a), was, b)
			}
			seen[fmt.Sprint(a.Kind, " ", code)]++
		}
	}
	codes := map[int][]int{
		impl.ActTable:  {impl.TabFine, impl.TabForm, impl.TabFull},
		impl.ActLink:   {impl.TabFine, impl.TabForm, impl.TabLink, impl.TabFull},
		impl.ActPut:    {impl.TabFine, impl.TabForm, impl.TabNeed, impl.TabOnce, impl.TabFull, impl.TabNone, impl.TabLink},
		impl.ActSet:    {impl.TabFine, impl.TabForm, impl.TabNeed, impl.TabOnce, impl.TabNone, impl.TabLink},
		impl.ActOff:    {impl.TabFine, impl.TabNone, impl.TabHeld},
		impl.ActChange: {impl.TabFine, impl.TabForm, impl.TabNeed, impl.TabFull, impl.TabNone, impl.TabUsed},
	}
	for kind, list := range codes {
		for _, code := range list {
			if seen[fmt.Sprint(kind, " ", code)] == 0 {
				t.Errorf("no act of the Kind %d came to the code %d", kind, code)
			}
		}
	}
}

// What is done is told one by one, so that ActDo is not held against the program alone.
func TestActDoPlain(t *testing.T) {
	b := impl.Base{}
	for _, c := range []struct {
		act  impl.Act
		code int
	}{
		{tableAct("t", numCol("k"), onceCol("o")), impl.TabFine},
		{tableAct("t", numCol("k")), impl.TabForm},
		{tableAct("u", numCol("k"), numCol("k")), impl.TabForm},
		{tableAct("u", numCol("k"), textCol("s")), impl.TabFine},
		{linkAct("u", "k", "t", impl.HowStop), impl.TabFine},
		{linkAct("u", "k", "t", impl.HowGone), impl.TabForm},
		{putAct("u", is("k", num(1))), impl.TabLink},
		{putAct("t", is("o", num(5))), impl.TabFine},
		{putAct("t", is("o", num(5))), impl.TabOnce},
		{putAct("t", is("o", num(6)), is("o", num(6))), impl.TabForm},
		{putAct("u", is("k", num(1))), impl.TabFine},
		{offAct("t", 1), impl.TabHeld},
		{setAct("u", 1, is("k", none)), impl.TabFine},
		{offAct("t", 1), impl.TabFine},
		{offAct("t", 0), impl.TabNone},
		{setAct("t", 60), impl.TabNone},
		{changeAct("u", drop("k")), impl.TabUsed},
		{changeAct("u", rename("k", "m")), impl.TabFine},
		{changeAct("u", add(impl.Col{Name: "n", Kind: impl.KindNum, Need: true})), impl.TabForm},
		{changeAct("v", drop("k")), impl.TabNone},
	} {
		next, code := impl.ActDo(b, c.act)
		if code != c.code {
			t.Errorf("%s ends with %d, not %d, at %+v", impl.ActText(c.act), code, c.code, b)
		}
		if code != impl.TabFine && baseText(next) != baseText(b) {
			t.Errorf("%s ends with %d, and of %+v came %+v", impl.ActText(c.act), code, b, next)
		}
		b = next
	}
	want := impl.Base{
		Tabs: tabs(
			impl.Tab{Name: "t", Table: impl.Table{First: []impl.Col{numCol("k"), onceCol("o")}, Next: 2}},
			impl.Tab{Name: "u", Table: impl.Table{First: []impl.Col{numCol("k"), textCol("s")}, Changes: []impl.Change{rename("k", "m")}, Rows: []impl.Row{{Id: 1, Vals: vals(none, none)}}, Next: 2}}),
		Links: links(link("u", "m", "t", impl.HowStop)),
	}
	if baseText(b) != baseText(want) {
		t.Errorf("behind all is %+v, not %+v", b, want)
	}
}

// Of a base that is not ok nothing is told, whatever is done; an act that is not ok leaves a base as it was, though what it names could be done.
func TestActWrong(t *testing.T) {
	acts := []impl.Act{{}, putAct("t"), putAct("t", is("A", none)), offAct("t", 61), offAct("t", 1), tableAct("z", numCol("k")), tableAct("z"), linkAct("t", "k", "t", impl.HowGone), changeAct("t", rename("k", "k"))}
	for what, b := range wrongBases() {
		for _, a := range acts {
			got, code := impl.ActDo(b, a)
			wantNoBase(t, what+": ActDo", got, code)
			for _, n := range []int{0, 1, 2, 6, 7, 20} {
				got, code, place := impl.ActAll(b, slices.Repeat([]impl.Act{a}, n))
				wantNoBase(t, what+": ActAll", got, code)
				if place != 0 {
					t.Errorf("%s: ActAll of %d tells the place %d", what, n, place)
				}
			}
		}
	}
	told := putAct("t")
	told.Id = 1
	named := linkAct("t", "m", "t", impl.HowGone)
	named.Name = "t"
	more := changeAct("t", drop("m"))
	more.Cols = colsOf(1)
	gone := offAct("t", 1)
	gone.Link.How = impl.HowStop
	for _, b := range actBases() {
		for _, a := range []impl.Act{told, named, more, gone, {Kind: impl.ActOff, Name: "t", Id: 1, Sets: sets(is("k", none))}, {Kind: 7, Name: "t"}, putAct("", is("k", num(1))), setAct("t", -1), offAct("t", 61)} {
			got, code := impl.ActDo(b, a)
			wantBase(t, fmt.Sprintf("%+v", a), b, got, code, b, impl.TabForm)
			got, code, place := impl.ActAll(b, []impl.Act{a})
			wantBase(t, fmt.Sprintf("all of %+v", a), b, got, code, b, impl.TabForm)
			if place != 0 {
				t.Errorf("%+v tells the place %d", a, place)
			}
		}
	}
}

// wantAll holds ActAll against acts that are done one behind the other: promise 8.
func wantAll(t *testing.T, b impl.Base, acts []impl.Act) (impl.Base, int, int) {
	t.Helper()
	was := baseText(b)
	got, code, place := impl.ActAll(b, acts)
	want, wantCode, wantPlace := plainAll(b, acts)
	if code != wantCode || place != wantPlace || baseText(got) != baseText(want) {
		t.Fatalf("%+v: the code and the place are %d, %d, not %d, %d; of %s came %+v, not %+v", acts, code, place, wantCode, wantPlace, was, got, want)
	}
	if baseText(b) != was {
		t.Fatalf("%+v: the argument was %s, and is %+v", acts, was, b)
	}
	if code != impl.TabFine && baseText(got) != was {
		t.Fatalf("%+v: the code is %d, and of %s came %+v", acts, code, was, got)
	}
	if !impl.BaseOk(got) {
		t.Fatalf("%+v: of %s came %+v, which is not ok", acts, was, got)
	}
	return got, code, place
}

// goodActs are six that can be done to nothing, in order; most need one that is ahead of them.
func goodActs() []impl.Act {
	return []impl.Act{
		tableAct("t", onceCol("k"), textCol("s")), tableAct("u", numCol("k")), putAct("t", is("k", num(1))),
		linkAct("u", "k", "t", impl.HowGone), putAct("u", is("k", num(1))), changeAct("u", rename("k", "m")),
	}
}

// moreActs are six that can be done behind goodActs, in order.
func moreActs() []impl.Act {
	return []impl.Act{
		putAct("t", is("k", num(2)), is("s", text("12"))), changeAct("t", retype("s", impl.KindNum)), setAct("u", 1, is("m", num(2))),
		offAct("t", 2), putAct("t", is("k", num(2)), is("s", num(3))), setAct("t", 3, is("k", num(1)), is("s", none)),
	}
}

func TestPromise8AllAreDone(t *testing.T) {
	good := goodActs()
	for n := range 7 {
		_, code, place := wantAll(t, impl.Base{}, good[:n])
		if code != impl.TabFine || place != n {
			t.Errorf("of %d acts the code and the place are %d, %d", n, code, place)
		}
	}
	b, code, place := wantAll(t, impl.Base{}, good)
	want := impl.Base{
		Tabs: tabs(
			impl.Tab{Name: "t", Table: impl.Table{First: []impl.Col{onceCol("k"), textCol("s")}, Rows: []impl.Row{{Id: 1, Vals: vals(num(1), none)}}, Next: 2}},
			impl.Tab{Name: "u", Table: impl.Table{First: []impl.Col{numCol("k")}, Changes: []impl.Change{rename("k", "m")}, Rows: []impl.Row{{Id: 1, Vals: vals(num(1))}}, Next: 2}}),
		Links: links(link("u", "m", "t", impl.HowGone)),
	}
	if code != impl.TabFine || place != 6 || baseText(b) != baseText(want) {
		t.Fatalf("behind six acts is %+v, %d, %d, not %+v", b, code, place, want)
	}
	// The fifth takes a value that must be there once and that the fourth let go; the sixth takes one that a row has still.
	if _, code, place = wantAll(t, b, moreActs()); code != impl.TabOnce || place != 5 {
		t.Errorf("what can be done but for the last ends with %d, %d", code, place)
	}
	more := append(moreActs()[:5:5], setAct("t", 3, is("k", num(3))))
	b, code, place = wantAll(t, b, more)
	rows := impl.Table{First: []impl.Col{onceCol("k"), textCol("s")}, Changes: []impl.Change{retype("s", impl.KindNum)}, Rows: []impl.Row{{Id: 1, Vals: vals(num(1), none)}, {Id: 3, Ver: 1, Vals: vals(num(3), num(3))}}, Next: 4}
	if code != impl.TabFine || place != 6 || tableText(b.Tabs[0].Table) != tableText(rows) || len(b.Tabs[1].Table.Rows) != 0 {
		t.Errorf("behind six more acts is %+v, %d, %d", b, code, place)
	}
}

// badActs can not be done behind any of goodActs, each with a code of its own or for a reason of its own.
func badActs() []impl.Act {
	over := putAct("t")
	over.Id = 1
	return []impl.Act{
		{}, {Kind: 7}, over, offAct("t", 61), offAct("zz", 1), offAct("t", 60), setAct("t", 0), putAct("zz"),
		putAct("t", is("zz", none)), putAct("t", is("k", num(7)), is("k", num(8))), tableAct("z", numCol("k"), numCol("k")),
		linkAct("t", "zz", "t", impl.HowStop), changeAct("t", drop("zz")), changeAct("zz", drop("k")),
	}
}

func TestPromise8OneThatCanNotBeDone(t *testing.T) {
	ahead, _, _ := impl.ActAll(impl.Base{}, goodActs())
	for _, b := range []impl.Base{{}, ahead} {
		good := goodActs()
		if len(b.Tabs) > 0 {
			good = moreActs()[:5]
		}
		for at := range good {
			for _, bad := range badActs() {
				// With all that can be done behind it, with nothing behind it, and in another one's place.
				for _, acts := range [][]impl.Act{
					slices.Insert(slices.Clone(good[:5]), at, bad),
					append(slices.Clone(good[:at]), bad),
					append(append(slices.Clone(good[:at]), bad), good[at+1:]...),
				} {
					got, code, place := wantAll(t, b, acts)
					if code == impl.TabFine || place != at || baseText(got) != baseText(b) {
						t.Errorf("%+v ends with %d, %d", acts, code, place)
					}
				}
			}
		}
	}
}

// Each code is told with its place, behind acts that can be done, and these are not to be seen.
func TestPromise8EachCode(t *testing.T) {
	b := chain()
	full := slices.Repeat([]impl.Act{putAct("t")}, 6)
	for _, c := range []struct {
		acts  []impl.Act
		code  int
		place int
	}{
		{[]impl.Act{offAct("v", 1), offAct("v", 1)}, impl.TabNone, 1},
		{[]impl.Act{putAct("t"), offAct("t", 4), setAct("t", 4)}, impl.TabNone, 2},
		{[]impl.Act{putAct("t"), putAct("u", is("k", num(4))), putAct("u", is("k", num(5)))}, impl.TabLink, 2},
		{[]impl.Act{putAct("t"), putAct("u", is("k", num(4))), putAct("v", is("k", num(4))), offAct("t", 4)}, impl.TabHeld, 3},
		{[]impl.Act{changeAct("u", rename("k", "n")), changeAct("u", add(numCol("k"))), changeAct("u", drop("k")), changeAct("u", drop("n"))}, impl.TabUsed, 3},
		{[]impl.Act{changeAct("t", add(needCol("s")))}, impl.TabForm, 0},
		{[]impl.Act{changeAct("t", add(impl.Col{Name: "s", Kind: impl.KindText, Need: true, Def: text("x")})), changeAct("t", retype("s", impl.KindNum))}, impl.TabNeed, 1},
		{[]impl.Act{changeAct("t", add(onceCol("o"))), setAct("t", 1, is("o", num(1))), setAct("t", 2, is("o", num(1)))}, impl.TabOnce, 2},
		{full, impl.TabFull, 5},
		{append(slices.Clone(full), putAct("t")), impl.TabFull, 0},
		{[]impl.Act{tableAct("w", numCol("k"))}, impl.TabFull, 0},
		{[]impl.Act{putAct("v"), linkAct("t", "k", "t", impl.HowGone)}, impl.TabFull, 1},
		{full[:5], impl.TabFine, 5},
		{nil, impl.TabFine, 0},
		{[]impl.Act{}, impl.TabFine, 0},
	} {
		got, code, place := wantAll(t, b, c.acts)
		if code != c.code || place != c.place {
			t.Errorf("%+v ends with %d, %d, not %d, %d", c.acts, code, place, c.code, c.place)
		}
		if (code != impl.TabFine || len(c.acts) == 0) && baseText(got) != baseText(b) {
			t.Errorf("%+v ends with %d, and of %+v came %+v", c.acts, code, b, got)
		}
	}
}

// More than ActMost are refused ahead of all else that may be wrong with them.
func TestPromise8TooMany(t *testing.T) {
	for _, a := range append(badActs(), putAct("t"), changeAct("t", rename("k", "k"))) {
		for _, n := range []int{7, 8, 60, 10000} {
			for what, b := range actBases() {
				got, code, place := impl.ActAll(b, slices.Repeat([]impl.Act{a}, n))
				wantBase(t, what, b, got, code, b, impl.TabFull)
				if place != 0 {
					t.Errorf("%s: %d acts tell the place %d", what, n, place)
				}
			}
		}
	}
	// Six may be done, to a base of which nothing is in the way.
	for what, b := range map[string]impl.Base{"one table": rightBases()["one table"], "a past": past()} {
		if _, code, place := wantAll(t, b, slices.Repeat([]impl.Act{setAct("t", b.Tabs[0].Table.Rows[0].Id)}, 6)); code != impl.TabFine || place != 6 {
			t.Errorf("%s: six acts end with %d, %d", what, code, place)
		}
	}
}

// Promise 8: each two acts, at bases of all sorts.
func TestPromise8EachTwo(t *testing.T) {
	acts := someActs()
	for what, b := range actBases() {
		t.Run(what, func(t *testing.T) {
			t.Parallel()
			for i, one := range acts {
				// Of the second ones every third is taken, another third at each.
				for j := i % 3; j < len(acts); j += 3 {
					wantAll(t, b, []impl.Act{one, acts[j]})
				}
			}
		})
	}
}

// Promise 8: long walks; which acts come next is worked out from the ones ahead, so that each run is the same.
func TestPromise8LongWalks(t *testing.T) {
	t.Parallel()
	// Some are taken more often, so that more than a few can be done at once.
	acts := append(someActs(), slices.Repeat([]impl.Act{putAct("t"), putAct("u"), setAct("t", 1), putAct("t", is("k", num(1)))}, 20)...)
	acts = append(acts, impl.Act{}, putAct("T"), setAct("t", 61))
	for id := 1; id < 14; id++ {
		for _, name := range []string{"t", "u", "v"} {
			acts = append(acts, putAct(name, is("m", num(id)), is("k", num(id/2))), setAct(name, id, is("m", num(id-1))), offAct(name, id))
		}
	}
	seen := map[string]int{}
	for _, b := range actBases() {
		for start := range 16 {
			now := b
			pick := uint32(start)
			next := func(n int) int {
				pick = pick*1664525 + 1013904223
				return int(pick>>8) % n
			}
			for range 80 {
				var list []impl.Act
				for range next(8) {
					list = append(list, acts[next(len(acts))])
				}
				done, code, place := wantAll(t, now, list)
				seen[fmt.Sprint("code ", code)]++
				if code == impl.TabFine {
					seen[fmt.Sprint("all of ", len(list))]++
				} else if place == len(list)-1 {
					seen[fmt.Sprint("all but the last of ", len(list))]++
				}
				now = done
			}
		}
	}
	for n := range 6 {
		if seen[fmt.Sprint("all of ", n)] == 0 || seen[fmt.Sprint("all but the last of ", n+1)] == 0 {
			t.Errorf("no walk came to %d acts that were done, or to %d of which the last was not", n, n+1)
		}
	}
	for code := range 9 {
		if seen[fmt.Sprint("code ", code)] == 0 {
			t.Errorf("no walk came to the code %d", code)
		}
	}
}

func TestActMemory(t *testing.T) {
	t.Parallel()
	lists := [][]impl.Act{nil, goodActs(), moreActs(), {putAct("t"), {}}, slices.Repeat([]impl.Act{putAct("t")}, 7), {setAct("t", 1, is("k", num(1))), offAct("t", 2), putAct("t"), changeAct("u", rename("k", "n"))}}
	for _, a := range append(someActs(), badActs()...) {
		lists = append(lists, []impl.Act{a}, []impl.Act{putAct("u"), a})
	}
	bases := actBases()
	for _, what := range []string{"four tables", "a link of nothing", "a row that is gone"} {
		bases[what] = wrongBases()[what]
	}
	for what, b := range bases {
		g := guardBase(b)
		for _, list := range lists {
			acts := guardActs(list...)
			apart := func(call string, parts []part) {
				t.Helper()
				call = fmt.Sprintf("%s: %s of %+v", what, call, list)
				g.check(t, call)
				acts.check(t, call)
				checkApart(t, call, parts)
				g.check(t, call+"'s answer")
				acts.check(t, call+"'s answer")
			}
			y, _, _ := impl.ActAll(g.base, acts.acts)
			apart("ActAll", baseParts(y))
			for _, a := range acts.acts[:min(1, len(list))] {
				impl.ActOk(a)
				impl.ActText(a)
				apart("asked", nil)
				y, _ := impl.ActDo(g.base, a)
				apart("ActDo", baseParts(y))
			}
		}
	}
}

// Two answers share nothing, be they of one text, of one base or of one act.
func TestActAnswersApart(t *testing.T) {
	t.Parallel()
	var list []part
	for range 2 {
		for _, x := range rightActs() {
			a, _ := impl.ActRead(x.text)
			list = append(list, actParts(a)...)
		}
	}
	b, acts := chain(), moreActs()
	for range 2 {
		for n := range 7 {
			y, _, _ := impl.ActAll(b, acts[:n])
			list = append(list, baseParts(y)...)
		}
		for _, a := range append(moreActs(), impl.Act{}) {
			y, _ := impl.ActDo(b, a)
			list = append(list, baseParts(y)...)
		}
	}
	checkApart(t, "two answers", list)
	if baseText(b) != baseText(chain()) || fmt.Sprint(acts) != fmt.Sprint(moreActs()) {
		t.Error("answers share memory with their arguments")
	}
}

// What ActRead answers can be written into and be added to, and is read anew as it was.
func TestActReadAnew(t *testing.T) {
	for _, x := range rightActs() {
		a, _ := impl.ActRead(x.text)
		scribble(a.Sets, is("w", text("wipe")))
		scribble(a.Cols, textCol("w"))
		wantText(t, x.act, x.text)
	}
}
