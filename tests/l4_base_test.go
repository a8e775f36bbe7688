package tests

import (
	"fmt"
	"math"
	"slices"
	"strconv"
	"testing"

	"loop.example/custumal/impl"
)

func link(from string, col string, to string, how int) impl.Link {
	return impl.Link{From: from, Col: col, To: to, How: how}
}

func ref(name string, id int) impl.Ref { return impl.Ref{Name: name, Id: id} }

// baseText tells all parts of a base, so that two of them can be held against each other without the program; no list and an empty one are told alike.
func baseText(b impl.Base) string { return fmt.Sprintf("%+v", b) }

func copyOfBase(b impl.Base) impl.Base {
	next := impl.Base{Links: slices.Clone(b.Links)}
	for _, x := range b.Tabs {
		next.Tabs = append(next.Tabs, impl.Tab{Name: x.Name, Table: copyOf(x.Table)})
	}
	return next
}

// keys is a table of the columns k and m, of which the values may name rows; its rows are told by these values from the Id 1 on, 0 being nothing.
func keys(name string, rows ...[2]int) impl.Tab {
	x := impl.Table{First: []impl.Col{numCol("k"), numCol("m")}, Next: len(rows) + 1}
	key := func(n int) impl.Val {
		if n == 0 {
			return none
		}
		return num(n)
	}
	for i, r := range rows {
		x.Rows = append(x.Rows, impl.Row{Id: i + 1, Vals: vals(key(r[0]), key(r[1]))})
	}
	return impl.Tab{Name: name, Table: x}
}

func tabs(list ...impl.Tab) []impl.Tab { return list }

func links(list ...impl.Link) []impl.Link { return list }

// chain is three tables of which each row of one names one of the next, with all three ways: u names t and is gone with it, v names u and holds it, or lets it go.
func chain() impl.Base {
	return impl.Base{
		Tabs: tabs(keys("t", [2]int{}, [2]int{}, [2]int{}), keys("u", [2]int{1, 2}, [2]int{1}, [2]int{3, 3}), keys("v", [2]int{1}, [2]int{0, 2}, [2]int{0, 2}, [2]int{})),
		Links: links(
			link("u", "k", "t", impl.HowGone), link("u", "m", "t", impl.HowNone),
			link("v", "k", "u", impl.HowStop), link("v", "m", "u", impl.HowNone),
		),
	}
}

// past is a base with rows that were written ahead of changes: r of t was the text q, and by that a row names another one.
func past() impl.Base {
	x := impl.Table{
		First:   []impl.Col{textCol("q"), onceCol("o"), textCol("s")},
		Changes: []impl.Change{retype("q", impl.KindNum), rename("q", "r"), drop("s")},
		Rows: []impl.Row{
			{Id: 2, Ver: 0, Vals: vals(text("5"), num(1), text("y"))},
			{Id: 4, Ver: 1, Vals: vals(num(2), none, none)},
			{Id: 5, Ver: 3, Vals: vals(num(5), num(8))},
			{Id: 6, Ver: 0, Vals: vals(text("05"), num(9), none)},
		},
		Next: 7,
	}
	return impl.Base{Tabs: tabs(impl.Tab{Name: "t", Table: x}, keys("u", [2]int{5, 4}, [2]int{4, 5})), Links: links(link("t", "r", "t", impl.HowNone), link("u", "k", "t", impl.HowGone))}
}

// rightBases are ok, each at an edge of its own.
func rightBases() map[string]impl.Base {
	needed := []impl.Col{{Name: "k", Kind: impl.KindNum, Need: true}}
	need := impl.Tab{Name: "u", Table: impl.Table{First: needed, Next: 2, Rows: []impl.Row{{Id: 1, Vals: vals(num(2))}}}}
	full := impl.Tab{Name: "v", Table: rowsOf(onceCol("k"), 8)}
	return map[string]impl.Base{
		"nothing":                  {},
		"empty lists":              {Tabs: []impl.Tab{}, Links: []impl.Link{}},
		"one table":                {Tabs: tabs(keys("t", [2]int{7, 900}))},
		"three tables and no link": {Tabs: tabs(keys("abc"), keys("u", [2]int{4, -4}), keys("z"))},
		"three tables and four":    chain(),
		"a past":                   past(),
		"a ring of rows":           {Tabs: tabs(keys("t", [2]int{2}, [2]int{3}, [2]int{1})), Links: links(link("t", "k", "t", impl.HowGone))},
		"rows that name themselves": {
			Tabs:  tabs(keys("t", [2]int{1, 2}, [2]int{2, 2}, [2]int{2, 3})),
			Links: links(link("t", "k", "t", impl.HowStop), link("t", "m", "t", impl.HowGone)),
		},
		"a ring of tables": {
			Tabs:  tabs(keys("t", [2]int{1}, [2]int{2}), keys("u", [2]int{2, 1}, [2]int{1, 2})),
			Links: links(link("t", "k", "u", impl.HowGone), link("u", "k", "t", impl.HowGone), link("u", "m", "t", impl.HowStop)),
		},
		"Need with HowStop": {Tabs: tabs(keys("t", [2]int{}, [2]int{}), need), Links: links(link("u", "k", "t", impl.HowStop))},
		"Need with HowGone": {Tabs: tabs(keys("t", [2]int{}, [2]int{}), need), Links: links(link("u", "k", "t", impl.HowGone))},
		"full tables":       {Tabs: tabs(full, keys("t", [2]int{8, 8})), Links: links(link("v", "k", "v", impl.HowStop), link("t", "k", "v", impl.HowNone), link("t", "m", "v", impl.HowGone))},
		"four links of one row": {
			Tabs:  tabs(keys("t", [2]int{1, 1}), keys("u", [2]int{1, 1})),
			Links: links(link("u", "m", "t", impl.HowNone), link("u", "k", "t", impl.HowNone), link("t", "m", "u", impl.HowNone), link("t", "k", "u", impl.HowNone)),
		},
	}
}

// wrongBases are not ok, each for a reason of its own.
func wrongBases() map[string]impl.Base {
	list := map[string]impl.Base{
		"four tables":             {Tabs: tabs(keys("a"), keys("b"), keys("c"), keys("d"))},
		"nineteen tables":         {Tabs: slices.Repeat(tabs(keys("a")), 19)},
		"a link without tables":   {Links: links(link("t", "k", "t", impl.HowGone))},
		"a link of nothing":       {Tabs: tabs(keys("t")), Links: links(impl.Link{})},
		"a table of nothing":      {Tabs: tabs(impl.Tab{})},
		"a table without columns": {Tabs: tabs(impl.Tab{Name: "t"})},
		"no name":                 {Tabs: tabs(impl.Tab{Table: rich()})},
	}
	edit := func(what string, do func(b *impl.Base)) {
		b := chain()
		do(&b)
		list[what] = b
	}
	for _, name := range []string{"", "t", "v", "abcd", "A", "t1", "\xff", "t "} {
		edit(fmt.Sprintf("a table named %q, and u no more", name), func(b *impl.Base) { b.Tabs[1].Name = name })
		list[fmt.Sprintf("two tables named %q", name)] = impl.Base{Tabs: tabs(keys(name), keys(name))}
		if !nameText.MatchString(name) {
			list[fmt.Sprintf("a table named %q", name)] = impl.Base{Tabs: tabs(keys(name))}
		}
	}
	for at := range 3 {
		edit(fmt.Sprintf("nothing as the table %d", at), func(b *impl.Base) { b.Tabs[at].Table = impl.Table{} })
		edit(fmt.Sprintf("Next of the table %d", at), func(b *impl.Base) { b.Tabs[at].Table.Next = 61 })
		edit(fmt.Sprintf("a row too many of the table %d", at), func(b *impl.Base) {
			b.Tabs[at].Table.Rows = append(b.Tabs[at].Table.Rows, impl.Row{Id: 1, Vals: vals(none, none)})
		})
		edit(fmt.Sprintf("a value of the table %d", at), func(b *impl.Base) { b.Tabs[at].Table.Rows[2].Vals[1] = text("x") })
	}
	for what, x := range wrongTables() {
		list["a table that is not ok: "+what] = impl.Base{Tabs: tabs(keys("t"), impl.Tab{Name: "u", Table: x})}
	}
	wrongLinks(list, edit)
	return list
}

// wrongLinks are the bases that are not ok by a link.
func wrongLinks(list map[string]impl.Base, edit func(what string, do func(b *impl.Base))) {
	five := chain()
	five.Links = append(five.Links, link("t", "k", "t", impl.HowGone))
	list["five links"] = five
	list["sixty links"] = impl.Base{Tabs: five.Tabs, Links: slices.Repeat(five.Links, 12)}
	for at := range 4 {
		for _, name := range []string{"", "w", "tt", "T"} {
			edit(fmt.Sprintf("the link %d of no table %q", at, name), func(b *impl.Base) { b.Links[at].From = name })
			edit(fmt.Sprintf("the link %d to no table %q", at, name), func(b *impl.Base) { b.Links[at].To = name })
		}
		for _, col := range []string{"", "n", "kk", "s"} {
			edit(fmt.Sprintf("the link %d of no column %q", at, col), func(b *impl.Base) { b.Links[at].Col = col })
		}
		for _, how := range []int{0, 4, -1, math.MaxInt, math.MinInt} {
			edit(fmt.Sprintf("the link %d with How %d", at, how), func(b *impl.Base) { b.Links[at].How = how })
		}
		edit(fmt.Sprintf("a column of texts of the link %d", at), func(b *impl.Base) {
			b.Tabs[tabAt(*b, b.Links[at].From)].Table = impl.Table{First: []impl.Col{textCol("k"), textCol("m")}, Next: 1}
		})
	}
	for what, how := range map[string]int{"the same": impl.HowGone, "another How": impl.HowStop} {
		list["two links of one column, "+what] = impl.Base{Tabs: tabs(keys("t"), keys("u")), Links: links(link("u", "k", "t", impl.HowGone), link("u", "k", "t", how))}
		list["two links of one column to two tables, "+what] = impl.Base{Tabs: tabs(keys("t"), keys("u")), Links: links(link("u", "k", "t", impl.HowGone), link("t", "k", "u", how), link("u", "k", "u", how))}
	}
	for at, no := range []int{4, -1, 60, 999} {
		edit(fmt.Sprintf("a row %d that is not there, by the link %d", no, at), func(b *impl.Base) { b.Tabs[1+at/2].Table.Rows[2].Vals[at%2] = num(no) })
	}
	edit("a row 0 is not there", func(b *impl.Base) { b.Tabs[1].Table.Rows[0].Vals[0] = num(0) })
	edit("a row that is gone", func(b *impl.Base) { b.Tabs[0].Table.Rows = b.Tabs[0].Table.Rows[1:] })
	need := keys("u")
	need.Table.First[0].Need = true
	list["HowNone and Need"] = impl.Base{Tabs: tabs(keys("t"), need), Links: links(link("u", "k", "t", impl.HowNone))}
	editPast := func(what string, do func(b *impl.Base)) {
		b := past()
		do(&b)
		list[what] = b
	}
	editPast("a link of a name that a column had", func(b *impl.Base) { b.Links[0].Col = "q" })
	editPast("a link of a column that is dropped", func(b *impl.Base) { b.Links[0].Col = "s" })
	editPast("a row that is named as it is, and not there", func(b *impl.Base) { b.Tabs[0].Table.Rows[0].Vals[0] = text("3") })
	editPast("a column that is of texts as it is", func(b *impl.Base) {
		b.Tabs[1].Table.Rows = nil
		b.Tabs[1].Table.Changes = []impl.Change{retype("k", impl.KindText)}
	})
}

func TestBaseBounds(t *testing.T) {
	if impl.HowStop != 1 || impl.HowGone != 2 || impl.HowNone != 3 || impl.TabHeld != 6 || impl.TabLink != 7 || impl.TabUsed != 8 {
		t.Error("a code or a How is another one than the document's")
	}
	if impl.TabsMost != 3 || impl.LinksMost != 4 {
		t.Error("a bound is another one than the document's")
	}
}

func TestBaseOkRight(t *testing.T) {
	for what, b := range rightBases() {
		if !impl.BaseOk(b) || !modelOk(b) {
			t.Errorf("%s: BaseOk(%+v) is false", what, b)
		}
	}
}

func wantNoBase(t *testing.T, what string, b impl.Base, code int) {
	t.Helper()
	if baseText(b) != baseText(impl.Base{}) || code != impl.TabForm {
		t.Errorf("%s is %+v, %d", what, b, code)
	}
}

// Of a base that is not ok each function has an answer of its own, whatever else it is given.
func TestWrongBases(t *testing.T) {
	for what, b := range wrongBases() {
		if impl.BaseOk(b) {
			t.Errorf("%s: BaseOk(%+v) is true", what, b)
		}
		for _, name := range []string{"t", "u", "v", "a", "zz", ""} {
			got, code := impl.BaseTable(b, name, colsOf(1))
			wantNoBase(t, what+": BaseTable", got, code)
			got, code = impl.BaseTable(b, name, nil)
			wantNoBase(t, what+": BaseTable without columns", got, code)
			for _, how := range []int{0, impl.HowStop, impl.HowGone, impl.HowNone} {
				got, code = impl.BaseLink(b, link(name, "k", "t", how))
				wantNoBase(t, what+": BaseLink", got, code)
			}
			got, code = impl.BasePut(b, name, nil)
			wantNoBase(t, what+": BasePut", got, code)
			got, code = impl.BasePut(b, name, sets(is("zz", none)))
			wantNoBase(t, what+": BasePut of no column", got, code)
			for _, c := range []impl.Change{{}, add(textCol("n")), rename("k", "n"), drop("k")} {
				got, code = impl.BaseChange(b, name, c)
				wantNoBase(t, what+": BaseChange", got, code)
			}
			for id := -1; id < 5; id++ {
				got, code = impl.BaseSet(b, name, id, nil)
				wantNoBase(t, what+": BaseSet", got, code)
				got, code = impl.BaseOff(b, name, id)
				wantNoBase(t, what+": BaseOff", got, code)
				if list := impl.BaseDoomed(b, name, id); len(list) != 0 {
					t.Errorf("%s: BaseDoomed is %v", what, list)
				}
			}
		}
	}
}

func TestBaseSame(t *testing.T) {
	for what, b := range rightBases() {
		if !impl.BaseSame(b, copyOfBase(b)) {
			t.Errorf("%s is not the same as itself", what)
		}
	}
	for what, b := range wrongBases() {
		if !impl.BaseSame(b, copyOfBase(b)) {
			t.Errorf("%s is not the same as itself", what)
		}
	}
	for i, edit := range []func(b *impl.Base){
		func(b *impl.Base) { b.Tabs = nil },
		func(b *impl.Base) { b.Tabs = b.Tabs[:2] },
		func(b *impl.Base) { b.Tabs = b.Tabs[1:] },
		func(b *impl.Base) { b.Tabs = append(b.Tabs, impl.Tab{}) },
		func(b *impl.Base) { b.Tabs[0].Name = "z" },
		func(b *impl.Base) { b.Tabs[2].Name = "" },
		func(b *impl.Base) { b.Tabs[0], b.Tabs[1] = b.Tabs[1], b.Tabs[0] },
		func(b *impl.Base) { b.Tabs[0].Name, b.Tabs[1].Name = b.Tabs[1].Name, b.Tabs[0].Name },
		func(b *impl.Base) { b.Tabs[1].Table.Next = 9 },
		func(b *impl.Base) { b.Tabs[2].Table.Rows[3].Vals[1] = num(2) },
		func(b *impl.Base) { b.Tabs[2].Table.Rows[3].Ver = 1 },
		func(b *impl.Base) { b.Tabs[0].Table.Changes = []impl.Change{drop("k")} },
		func(b *impl.Base) { b.Tabs[0].Table.First[0].Need = true },
		func(b *impl.Base) { b.Links = nil },
		func(b *impl.Base) { b.Links = b.Links[:3] },
		func(b *impl.Base) { b.Links = b.Links[1:] },
		func(b *impl.Base) { b.Links = append(b.Links, impl.Link{}) },
		func(b *impl.Base) { b.Links[0], b.Links[1] = b.Links[1], b.Links[0] },
		func(b *impl.Base) { b.Links[0].From = "v" },
		func(b *impl.Base) { b.Links[1].Col = "n" },
		func(b *impl.Base) { b.Links[2].To = "t" },
		func(b *impl.Base) { b.Links[3].How = impl.HowStop },
	} {
		b := chain()
		edit(&b)
		if impl.BaseSame(b, chain()) || impl.BaseSame(chain(), b) {
			t.Errorf("the edit %d is the same", i)
		}
	}
	if !impl.BaseSame(impl.Base{}, impl.Base{Tabs: []impl.Tab{}, Links: []impl.Link{}}) {
		t.Error("nothing is not the same as nothing")
	}
}

// wantBase holds a base and a code against those that must come; with another code than TabFine the base must be as it was.
func wantBase(t *testing.T, what string, was impl.Base, got impl.Base, code int, want impl.Base, wantCode int) {
	t.Helper()
	if wantCode != impl.TabFine {
		want = was
	}
	if code != wantCode || baseText(got) != baseText(want) {
		t.Errorf("%s: the code is %d, not %d; of %+v came %+v, not %+v", what, code, wantCode, was, got, want)
	}
	if !impl.BaseOk(got) {
		t.Errorf("%s: %+v is not ok", what, got)
	}
}

func TestBaseTable(t *testing.T) {
	b := impl.Base{}
	for _, name := range []string{"t", "abc", "k"} {
		want := copyOfBase(b)
		want.Tabs = append(want.Tabs, impl.Tab{Name: name, Table: impl.Table{First: three(), Next: 1}})
		got, code := impl.BaseTable(b, name, three())
		wantBase(t, "a table "+name, b, got, code, want, impl.TabFine)
		b = got
	}
	two := impl.Base{Tabs: chain().Tabs[:2], Links: chain().Links[:2]}
	want := copyOfBase(two)
	want.Tabs = append(want.Tabs, impl.Tab{Name: "v", Table: impl.Table{First: colsOf(5), Next: 1}})
	got, code := impl.BaseTable(two, "v", colsOf(5))
	wantBase(t, "a table behind links", two, got, code, want, impl.TabFine)
}

func TestBaseTableCodes(t *testing.T) {
	two := impl.Base{Tabs: chain().Tabs[:2], Links: chain().Links[:2]}
	for what, b := range map[string]impl.Base{"two": two, "three": chain()} {
		for _, name := range []string{"", "abcd", "A", "a1", " a", "a\n", "é", "\xff", "t", "u"} {
			got, code := impl.BaseTable(b, name, colsOf(1))
			wantBase(t, fmt.Sprintf("%s: a table named %q", what, name), b, got, code, b, impl.TabForm)
		}
		for i, s := range wrongShapes() {
			got, code := impl.BaseTable(b, "z", s)
			wantBase(t, fmt.Sprintf("%s: columns %d that are not ok", what, i), b, got, code, b, impl.TabForm)
		}
	}
	got, code := impl.BaseTable(chain(), "z", colsOf(1))
	wantBase(t, "a fourth table", chain(), got, code, chain(), impl.TabFull)
}

func TestBaseLink(t *testing.T) {
	need := keys("u", [2]int{1, 2}, [2]int{2, 2})
	need.Table.First[0].Need = true
	b := impl.Base{Tabs: tabs(keys("t", [2]int{2, 1}, [2]int{1, 2}), need)}
	for _, l := range links(link("u", "k", "t", impl.HowStop), link("u", "m", "t", impl.HowNone), link("t", "k", "t", impl.HowGone), link("t", "m", "u", impl.HowNone)) {
		want := copyOfBase(b)
		want.Links = append(want.Links, l)
		got, code := impl.BaseLink(b, l)
		wantBase(t, fmt.Sprintf("%+v", l), b, got, code, want, impl.TabFine)
		b = got
	}
	// A column may be linked whose values name rows as they are, and not as they were written.
	old := past()
	old.Links = nil
	for _, l := range past().Links {
		want := copyOfBase(old)
		want.Links = append(want.Links, l)
		got, code := impl.BaseLink(old, l)
		wantBase(t, fmt.Sprintf("past: %+v", l), old, got, code, want, impl.TabFine)
		old = got
	}
}

func TestBaseLinkCodes(t *testing.T) {
	need := keys("u", [2]int{1, 3}, [2]int{2, 0})
	need.Table.First[0].Need = true
	need.Table.First = append(need.Table.First, textCol("s"))
	for i := range need.Table.Rows {
		need.Table.Rows[i].Vals = append(need.Table.Rows[i].Vals, none)
	}
	b := impl.Base{Tabs: tabs(keys("t", [2]int{1, 5}, [2]int{2, 0}), need), Links: links(link("t", "k", "t", impl.HowGone))}
	for what, c := range map[string]struct {
		l    impl.Link
		code int
	}{
		"nothing":                            {impl.Link{}, impl.TabForm},
		"no From":                            {link("v", "k", "t", impl.HowStop), impl.TabForm},
		"no To":                              {link("u", "k", "v", impl.HowStop), impl.TabForm},
		"no Col":                             {link("u", "n", "t", impl.HowStop), impl.TabForm},
		"a Col of To":                        {link("t", "s", "u", impl.HowStop), impl.TabForm},
		"texts":                              {link("u", "s", "t", impl.HowStop), impl.TabForm},
		"How 0":                              {link("u", "k", "t", 0), impl.TabForm},
		"How 4":                              {link("u", "k", "t", 4), impl.TabForm},
		"How below 0":                        {link("u", "k", "t", -1), impl.TabForm},
		"the last How":                       {link("u", "k", "t", math.MaxInt), impl.TabForm},
		"HowNone and Need":                   {link("u", "k", "t", impl.HowNone), impl.TabForm},
		"the same once more":                 {link("t", "k", "t", impl.HowGone), impl.TabForm},
		"the same From and Col":              {link("t", "k", "u", impl.HowNone), impl.TabForm},
		"a row that is not there":            {link("u", "m", "t", impl.HowNone), impl.TabLink},
		"a row that is not there, itself":    {link("t", "m", "t", impl.HowStop), impl.TabLink},
		"a row that is not there, elsewhere": {link("t", "m", "u", impl.HowGone), impl.TabLink},
		"form ahead of link: How":            {link("u", "m", "t", 9), impl.TabForm},
		"form ahead of link: To":             {link("u", "m", "w", impl.HowNone), impl.TabForm},
	} {
		got, code := impl.BaseLink(b, c.l)
		wantBase(t, what, b, got, code, b, c.code)
	}
	full := chain()
	full.Tabs[0].Table.Rows[1].Vals = vals(num(1), num(4))
	for what, c := range map[string]struct {
		l    impl.Link
		code int
	}{
		"a fifth":                          {link("t", "k", "t", impl.HowStop), impl.TabFull},
		"form ahead of full":               {link("t", "k", "t", 0), impl.TabForm},
		"form ahead of full: one is there": {link("u", "k", "t", impl.HowGone), impl.TabForm},
		"link ahead of full":               {link("t", "m", "t", impl.HowStop), impl.TabLink},
	} {
		got, code := impl.BaseLink(full, c.l)
		wantBase(t, what, full, got, code, full, c.code)
	}
	// A column of texts that were numbers once, and one that is gone, do not fit.
	old := past()
	old.Tabs[1].Table.Changes = []impl.Change{retype("m", impl.KindText)}
	for _, l := range links(link("u", "m", "t", impl.HowNone), link("t", "q", "t", impl.HowNone), link("t", "s", "t", impl.HowNone)) {
		got, code := impl.BaseLink(old, l)
		wantBase(t, fmt.Sprintf("past: %+v", l), old, got, code, old, impl.TabForm)
	}
}

// needy is a base of which u asks for k, which names rows of t, and has each m once, which names rows of u.
func needy() impl.Base {
	u := keys("u", [2]int{1, 2}, [2]int{2, 1})
	u.Table.First[0].Need = true
	u.Table.First[1].Once = true
	return impl.Base{Tabs: tabs(keys("t", [2]int{}, [2]int{}), u), Links: links(link("u", "k", "t", impl.HowGone), link("u", "m", "u", impl.HowNone))}
}

func TestBasePut(t *testing.T) {
	put := func(b impl.Base, at int, row ...impl.Val) impl.Base {
		next := copyOfBase(b)
		x := &next.Tabs[at].Table
		x.Rows = append(x.Rows, impl.Row{Id: x.Next, Ver: len(x.Changes), Vals: row})
		x.Next++
		return next
	}
	b := needy()
	full := needy()
	full.Tabs[1].Table.Next = 60
	late := needy()
	late.Tabs[0].Table = rowsOf(numCol("k"), 8)
	for what, c := range map[string]struct {
		b    impl.Base
		name string
		told []impl.Set
		want impl.Base
		code int
	}{
		"a row that names one":               {b, "u", sets(is("k", num(2))), put(b, 1, num(2), none), impl.TabFine},
		"a row that names itself":            {b, "u", sets(is("k", num(1)), is("m", num(3))), put(b, 1, num(1), num(3)), impl.TabFine},
		"a row without links":                {b, "t", sets(is("k", num(77))), put(b, 0, num(77), none), impl.TabFine},
		"into a full table's neighbour":      {full, "t", nil, put(full, 0, none, none), impl.TabFine},
		"no table":                           {b, "v", nil, b, impl.TabNone},
		"no table of no name":                {b, "", nil, b, impl.TabNone},
		"no table ahead of form":             {b, "v", sets(is("zz", none)), b, impl.TabNone},
		"no table of nothing":                {impl.Base{}, "t", nil, impl.Base{}, impl.TabNone},
		"form":                               {b, "u", sets(is("zz", none)), b, impl.TabForm},
		"form, a value that is not ok":       {b, "u", sets(is("k", num(1000))), b, impl.TabForm},
		"form ahead of link":                 {b, "u", sets(is("k", num(9)), is("zz", none)), b, impl.TabForm},
		"need":                               {b, "u", nil, b, impl.TabNeed},
		"need ahead of link":                 {b, "u", sets(is("m", num(9))), b, impl.TabNeed},
		"once":                               {b, "u", sets(is("k", num(1)), is("m", num(2))), b, impl.TabOnce},
		"once ahead of link":                 {b, "u", sets(is("k", num(9)), is("m", num(2))), b, impl.TabOnce},
		"full by Next":                       {full, "u", sets(is("k", num(1))), full, impl.TabFull},
		"full ahead of link":                 {full, "u", sets(is("k", num(9))), full, impl.TabFull},
		"full of rows":                       {late, "t", nil, late, impl.TabFull},
		"link":                               {b, "u", sets(is("k", num(3))), b, impl.TabLink},
		"link, 0":                            {b, "u", sets(is("k", num(0))), b, impl.TabLink},
		"link, below 0":                      {b, "u", sets(is("k", num(-1))), b, impl.TabLink},
		"link, the second one":               {b, "u", sets(is("k", num(1)), is("m", num(4))), b, impl.TabLink},
		"link, a row of another table":       {b, "u", sets(is("k", num(3)), is("m", num(3))), b, impl.TabLink},
		"no link of a column of that name":   {b, "t", sets(is("k", num(9)), is("m", num(9))), put(b, 0, num(9), num(9)), impl.TabFine},
		"a Def that names a row that is not": {impl.Base{Tabs: tabs(impl.Tab{Name: "t", Table: impl.TableNew([]impl.Col{{Name: "k", Kind: impl.KindNum, Def: num(2)}})}), Links: links(link("t", "k", "t", impl.HowGone))}, "t", nil, b, impl.TabLink},
	} {
		got, code := impl.BasePut(c.b, c.name, c.told)
		wantBase(t, what, c.b, got, code, c.want, c.code)
	}
	// Behind changes a row is written with these.
	old := past()
	got, code := impl.BasePut(old, "t", sets(is("r", num(7)), is("o", num(2))))
	wantBase(t, "a row behind changes", old, got, code, put(old, 0, num(7), num(2)), impl.TabFine)
	got, code = impl.BasePut(old, "t", sets(is("r", num(8))))
	wantBase(t, "a row behind changes that names none", old, got, code, old, impl.TabLink)
}

func TestBaseSet(t *testing.T) {
	set := func(b impl.Base, at int, id int, row ...impl.Val) impl.Base {
		next := copyOfBase(b)
		x := next.Tabs[at].Table
		for i, r := range x.Rows {
			if r.Id == id {
				x.Rows[i] = impl.Row{Id: id, Ver: len(x.Changes), Vals: row}
			}
		}
		return next
	}
	b, old := needy(), past()
	for what, c := range map[string]struct {
		b    impl.Base
		name string
		id   int
		told []impl.Set
		want impl.Base
		code int
	}{
		"another row":                      {b, "u", 1, sets(is("k", num(2))), set(b, 1, 1, num(2), num(2)), impl.TabFine},
		"itself":                           {b, "u", 1, sets(is("m", none)), set(b, 1, 1, num(1), none), impl.TabFine},
		"none told":                        {b, "u", 2, nil, set(b, 1, 2, num(2), num(1)), impl.TabFine},
		"a row without links":              {b, "t", 2, sets(is("m", num(-9))), set(b, 0, 2, none, num(-9)), impl.TabFine},
		"a row of long ago":                {old, "t", 2, nil, set(old, 0, 2, num(5), num(1)), impl.TabFine},
		"a row of long ago, another":       {old, "t", 6, sets(is("r", num(6))), set(old, 0, 6, num(6), num(9)), impl.TabFine},
		"a row of long ago, link":          {old, "t", 6, sets(is("r", num(3))), old, impl.TabLink},
		"no table":                         {b, "v", 1, nil, b, impl.TabNone},
		"no table ahead of form":           {b, "v", 1, sets(is("zz", none)), b, impl.TabNone},
		"no row":                           {b, "u", 3, nil, b, impl.TabNone},
		"no row, 0":                        {b, "u", 0, nil, b, impl.TabNone},
		"no row, below 0":                  {b, "t", math.MinInt, nil, b, impl.TabNone},
		"no row ahead of form":             {b, "u", 3, sets(is("zz", none)), b, impl.TabNone},
		"no row ahead of link":             {b, "u", 3, sets(is("k", num(9))), b, impl.TabNone},
		"form":                             {b, "u", 1, sets(is("k", text("1"))), b, impl.TabForm},
		"form ahead of link":               {b, "u", 1, sets(is("k", num(9)), is("k", num(9))), b, impl.TabForm},
		"need":                             {b, "u", 1, sets(is("k", none)), b, impl.TabNeed},
		"need ahead of link":               {b, "u", 1, sets(is("k", none), is("m", num(9))), b, impl.TabNeed},
		"once":                             {b, "u", 1, sets(is("m", num(1))), b, impl.TabOnce},
		"once ahead of link":               {b, "u", 1, sets(is("k", num(9)), is("m", num(1))), b, impl.TabOnce},
		"link":                             {b, "u", 1, sets(is("k", num(3))), b, impl.TabLink},
		"link, 0":                          {b, "u", 2, sets(is("k", num(0))), b, impl.TabLink},
		"link, below 0":                    {b, "u", 2, sets(is("m", num(-1))), b, impl.TabLink},
		"link, the second one":             {b, "u", 1, sets(is("m", num(3))), b, impl.TabLink},
		"no link of a column of that name": {b, "t", 1, sets(is("k", num(9))), set(b, 0, 1, num(9), none), impl.TabFine},
	} {
		got, code := impl.BaseSet(c.b, c.name, c.id, c.told)
		wantBase(t, what, c.b, got, code, c.want, c.code)
	}
}

// doomCases are bases with, for some rows, those that go with them, told one by one from the document's words.
func doomCases() map[string]struct {
	b    impl.Base
	want map[impl.Ref][]impl.Ref
} {
	type refs = []impl.Ref
	type wants = map[impl.Ref][]impl.Ref
	gone := func(from string, col string, to string) impl.Link { return link(from, col, to, impl.HowGone) }
	return map[string]struct {
		b    impl.Base
		want map[impl.Ref][]impl.Ref
	}{
		"a chain over two tables": {
			impl.Base{Tabs: tabs(keys("t", [2]int{}, [2]int{}), keys("u", [2]int{1}, [2]int{2}, [2]int{1}, [2]int{})), Links: links(gone("u", "k", "t"))},
			wants{ref("t", 1): refs{ref("t", 1), ref("u", 1), ref("u", 3)}, ref("t", 2): refs{ref("t", 2), ref("u", 2)}, ref("u", 1): refs{ref("u", 1)}, ref("u", 4): refs{ref("u", 4)}},
		},
		"a chain over two tables, that which is named last": {
			impl.Base{Tabs: tabs(keys("u", [2]int{1}, [2]int{2}, [2]int{1}), keys("t", [2]int{}, [2]int{})), Links: links(gone("u", "k", "t"))},
			wants{ref("t", 1): refs{ref("u", 1), ref("u", 3), ref("t", 1)}, ref("t", 2): refs{ref("u", 2), ref("t", 2)}, ref("u", 3): refs{ref("u", 3)}},
		},
		"a chain over three tables": {
			impl.Base{Tabs: tabs(keys("v", [2]int{2}, [2]int{1}, [2]int{2}), keys("t", [2]int{}, [2]int{}), keys("u", [2]int{2}, [2]int{1})), Links: links(gone("v", "k", "u"), gone("u", "k", "t"))},
			wants{ref("t", 1): refs{ref("v", 1), ref("v", 3), ref("t", 1), ref("u", 2)}, ref("t", 2): refs{ref("v", 2), ref("t", 2), ref("u", 1)}, ref("u", 2): refs{ref("v", 1), ref("v", 3), ref("u", 2)}, ref("v", 2): refs{ref("v", 2)}},
		},
		"a chain within one table": {
			impl.Base{Tabs: tabs(keys("t", [2]int{}, [2]int{1}, [2]int{2}, [2]int{3}, [2]int{1})), Links: links(gone("t", "k", "t"))},
			wants{ref("t", 1): refs{ref("t", 1), ref("t", 2), ref("t", 3), ref("t", 4), ref("t", 5)}, ref("t", 2): refs{ref("t", 2), ref("t", 3), ref("t", 4)}, ref("t", 4): refs{ref("t", 4)}, ref("t", 5): refs{ref("t", 5)}},
		},
		"a chain from later rows to earlier ones and back": {
			impl.Base{Tabs: tabs(keys("t", [2]int{3}, [2]int{4}, [2]int{2}, [2]int{})), Links: links(gone("t", "k", "t"))},
			wants{ref("t", 4): refs{ref("t", 1), ref("t", 2), ref("t", 3), ref("t", 4)}, ref("t", 3): refs{ref("t", 1), ref("t", 3)}, ref("t", 1): refs{ref("t", 1)}},
		},
		"a ring of rows": {
			impl.Base{Tabs: tabs(keys("t", [2]int{2}, [2]int{3}, [2]int{1}, [2]int{3}, [2]int{})), Links: links(gone("t", "k", "t"))},
			wants{ref("t", 1): refs{ref("t", 1), ref("t", 2), ref("t", 3), ref("t", 4)}, ref("t", 2): refs{ref("t", 1), ref("t", 2), ref("t", 3), ref("t", 4)}, ref("t", 3): refs{ref("t", 1), ref("t", 2), ref("t", 3), ref("t", 4)}, ref("t", 4): refs{ref("t", 4)}, ref("t", 5): refs{ref("t", 5)}},
		},
		"a ring over two tables": {
			impl.Base{Tabs: tabs(keys("t", [2]int{1}, [2]int{2}), keys("u", [2]int{2}, [2]int{1})), Links: links(gone("t", "k", "u"), gone("u", "k", "t"))},
			wants{ref("t", 1): refs{ref("t", 1), ref("t", 2), ref("u", 1), ref("u", 2)}, ref("u", 2): refs{ref("t", 1), ref("t", 2), ref("u", 1), ref("u", 2)}},
		},
		"a row that names itself": {
			impl.Base{Tabs: tabs(keys("t", [2]int{1}, [2]int{2}, [2]int{2})), Links: links(gone("t", "k", "t"))},
			wants{ref("t", 1): refs{ref("t", 1)}, ref("t", 2): refs{ref("t", 2), ref("t", 3)}, ref("t", 3): refs{ref("t", 3)}},
		},
		"one row named twice, and by two links": {
			impl.Base{Tabs: tabs(keys("t", [2]int{}, [2]int{}), keys("u", [2]int{1, 1}, [2]int{1, 2}, [2]int{2, 1})), Links: links(gone("u", "k", "t"), gone("u", "m", "t"))},
			wants{ref("t", 1): refs{ref("t", 1), ref("u", 1), ref("u", 2), ref("u", 3)}, ref("t", 2): refs{ref("t", 2), ref("u", 2), ref("u", 3)}, ref("u", 1): refs{ref("u", 1)}},
		},
		"two links between the same tables, one with HowGone": {
			impl.Base{Tabs: tabs(keys("t", [2]int{}, [2]int{}), keys("u", [2]int{1, 2}, [2]int{2, 1})), Links: links(gone("u", "k", "t"), link("u", "m", "t", impl.HowNone))},
			wants{ref("t", 1): refs{ref("t", 1), ref("u", 1)}, ref("t", 2): refs{ref("t", 2), ref("u", 2)}},
		},
		"two links between the same tables, there and back": {
			impl.Base{Tabs: tabs(keys("t", [2]int{2}, [2]int{}), keys("u", [2]int{2}, [2]int{2})), Links: links(gone("u", "k", "t"), gone("t", "k", "u"))},
			wants{ref("t", 1): refs{ref("t", 1)}, ref("t", 2): refs{ref("t", 1), ref("t", 2), ref("u", 1), ref("u", 2)}, ref("u", 1): refs{ref("u", 1)}, ref("u", 2): refs{ref("t", 1), ref("u", 2)}},
		},
		"named by HowStop and HowNone alone": {
			impl.Base{Tabs: tabs(keys("t", [2]int{}, [2]int{}), keys("u", [2]int{1, 1}, [2]int{2, 2})), Links: links(link("u", "k", "t", impl.HowStop), link("u", "m", "t", impl.HowNone))},
			wants{ref("t", 1): refs{ref("t", 1)}, ref("t", 2): refs{ref("t", 2)}, ref("u", 1): refs{ref("u", 1)}},
		},
		"a chain that HowNone cuts": {
			impl.Base{Tabs: tabs(keys("t", [2]int{}), keys("u", [2]int{1}), keys("v", [2]int{1, 1}, [2]int{0, 1})), Links: links(gone("u", "k", "t"), link("v", "k", "u", impl.HowNone), gone("v", "m", "v"))},
			wants{ref("t", 1): refs{ref("t", 1), ref("u", 1)}, ref("v", 1): refs{ref("v", 1), ref("v", 2)}, ref("u", 1): refs{ref("u", 1)}},
		},
		"two ways to one row": {
			impl.Base{Tabs: tabs(keys("t", [2]int{}), keys("u", [2]int{1}, [2]int{1}), keys("v", [2]int{1, 2})), Links: links(gone("u", "k", "t"), gone("v", "k", "u"), gone("v", "m", "u"))},
			wants{ref("t", 1): refs{ref("t", 1), ref("u", 1), ref("u", 2), ref("v", 1)}, ref("u", 2): refs{ref("u", 2), ref("v", 1)}},
		},
		"no links": {
			impl.Base{Tabs: tabs(keys("t", [2]int{1, 2}, [2]int{1, 2}))},
			wants{ref("t", 1): refs{ref("t", 1)}, ref("t", 2): refs{ref("t", 2)}},
		},
		"rows as they are": {
			past(),
			wants{ref("t", 4): refs{ref("t", 4), ref("u", 2)}, ref("t", 5): refs{ref("t", 5), ref("u", 1)}, ref("t", 2): refs{ref("t", 2)}},
		},
	}
}

func TestBaseDoomed(t *testing.T) {
	for what, c := range doomCases() {
		if !impl.BaseOk(c.b) {
			t.Errorf("%s: %+v is not ok", what, c.b)
		}
		for first, want := range c.want {
			if got := impl.BaseDoomed(c.b, first.Name, first.Id); !slices.Equal(got, want) {
				t.Errorf("%s: BaseDoomed of %v is %v, not %v", what, first, got, want)
			}
		}
		checkDoomed(t, c.b)
		for _, no := range []impl.Ref{{}, ref("t", 0), ref("t", 9), ref("t", -1), ref("w", 1), ref("", 1), ref("t", math.MaxInt), ref("u", math.MinInt)} {
			if got := impl.BaseDoomed(c.b, no.Name, no.Id); len(got) != 0 {
				t.Errorf("%s: BaseDoomed of %v is %v", what, no, got)
			}
		}
	}
	if got := impl.BaseDoomed(impl.Base{}, "t", 1); len(got) != 0 {
		t.Errorf("BaseDoomed of nothing is %v", got)
	}
}

// Promise 6: of all sets of rows that are as the document asks, the fewest rows are those that each of them has.
func TestPromise6FewestRows(t *testing.T) {
	list := map[string]impl.Base{}
	for what, c := range doomCases() {
		list[what] = c.b
	}
	for what, b := range rightBases() {
		list["right: "+what] = b
	}
	for what, b := range list {
		all := allRefs(b)
		type pair struct{ from, to int }
		var pairs []pair
		for _, l := range b.Links {
			eachName(b, l, func(from impl.Ref, to impl.Ref) {
				if l.How == impl.HowGone {
					pairs = append(pairs, pair{slices.Index(all, from), slices.Index(all, to)})
				}
			})
		}
		for first, r := range all {
			least := 1<<len(all) - 1
			for some := range 1 << len(all) {
				closed := some>>first&1 == 1
				for _, p := range pairs {
					closed = closed && (some>>p.to&1 == 0 || some>>p.from&1 == 1)
				}
				if closed {
					least &= some
				}
			}
			var want []impl.Ref
			for i, one := range all {
				if least>>i&1 == 1 {
					want = append(want, one)
				}
			}
			if got := impl.BaseDoomed(b, r.Name, r.Id); !slices.Equal(got, want) {
				t.Errorf("%s: BaseDoomed of %v is %v, not %v", what, r, got, want)
			}
		}
	}
}

// less is a base without some rows, and with others whose values are told.
func less(b impl.Base, gone []impl.Ref, anew map[impl.Ref][]impl.Val) impl.Base {
	next := copyOfBase(b)
	for i, x := range next.Tabs {
		next.Tabs[i].Table.Rows = slices.DeleteFunc(x.Table.Rows, func(r impl.Row) bool { return slices.Contains(gone, ref(x.Name, r.Id)) })
		for at, r := range next.Tabs[i].Table.Rows {
			if row, is := anew[ref(x.Name, r.Id)]; is {
				x.Table.Rows[at] = impl.Row{Id: r.Id, Ver: len(x.Table.Changes), Vals: row}
			}
		}
	}
	return next
}

func TestBaseOffGone(t *testing.T) {
	for what, c := range doomCases() {
		// Of the bases that have no link with HowStop or HowNone just the doomed go, and nothing else is turned.
		if slices.ContainsFunc(c.b.Links, func(l impl.Link) bool { return l.How != impl.HowGone }) {
			continue
		}
		for first, gone := range c.want {
			got, code := impl.BaseOff(c.b, first.Name, first.Id)
			wantBase(t, fmt.Sprint(what, ": off ", first), c.b, got, code, less(c.b, gone, nil), impl.TabFine)
		}
	}
}

func TestBaseOffHeld(t *testing.T) {
	for what, c := range map[string]struct {
		tabs  []impl.Tab
		links []impl.Link
		first impl.Ref
		gone  []impl.Ref
	}{
		"by a row that stays":          {tabs(keys("t", [2]int{}), keys("u", [2]int{1})), links(link("u", "k", "t", impl.HowStop)), ref("t", 1), nil},
		"by one of two rows":           {tabs(keys("t", [2]int{}, [2]int{}), keys("u", [2]int{2}, [2]int{1})), links(link("u", "k", "t", impl.HowStop)), ref("t", 2), nil},
		"the row that holds goes":      {tabs(keys("t", [2]int{}), keys("u", [2]int{1})), links(link("u", "k", "t", impl.HowStop)), ref("u", 1), []impl.Ref{ref("u", 1)}},
		"a row that is not named":      {tabs(keys("t", [2]int{}, [2]int{}), keys("u", [2]int{1})), links(link("u", "k", "t", impl.HowStop)), ref("t", 2), []impl.Ref{ref("t", 2)}},
		"by itself":                    {tabs(keys("t", [2]int{1}, [2]int{2})), links(link("t", "k", "t", impl.HowStop)), ref("t", 1), []impl.Ref{ref("t", 1)}},
		"by the other one of a ring":   {tabs(keys("t", [2]int{2}, [2]int{1})), links(link("t", "k", "t", impl.HowStop)), ref("t", 1), nil},
		"by a row that goes too":       {tabs(keys("t", [2]int{}), keys("u", [2]int{1, 1})), links(link("u", "k", "t", impl.HowStop), link("u", "m", "t", impl.HowGone)), ref("t", 1), []impl.Ref{ref("t", 1), ref("u", 1)}},
		"by one that goes and one not": {tabs(keys("t", [2]int{}), keys("u", [2]int{1, 1}, [2]int{1})), links(link("u", "k", "t", impl.HowStop), link("u", "m", "t", impl.HowGone)), ref("t", 1), nil},
		"one that goes is held":        {tabs(keys("t", [2]int{}), keys("u", [2]int{1}), keys("v", [2]int{1})), links(link("u", "k", "t", impl.HowGone), link("v", "k", "u", impl.HowStop)), ref("t", 1), nil},
		"one that goes far off is held by the first": {
			tabs(keys("t", [2]int{1}), keys("u", [2]int{1}), keys("v", [2]int{1})), links(link("u", "k", "t", impl.HowGone), link("v", "k", "u", impl.HowGone), link("t", "k", "v", impl.HowStop)),
			ref("t", 1), []impl.Ref{ref("t", 1), ref("u", 1), ref("v", 1)},
		},
		"one that goes is held by one that goes by another way": {
			tabs(keys("t", [2]int{}), keys("u", [2]int{1}), keys("v", [2]int{1, 1})), links(link("u", "k", "t", impl.HowGone), link("v", "k", "u", impl.HowStop), link("v", "m", "t", impl.HowGone)),
			ref("t", 1), []impl.Ref{ref("t", 1), ref("u", 1), ref("v", 1)},
		},
		"held, and let go by another link":         {tabs(keys("t", [2]int{}), keys("u", [2]int{1, 1})), links(link("u", "m", "t", impl.HowNone), link("u", "k", "t", impl.HowStop)), ref("t", 1), nil},
		"held, and let go by an earlier row":       {tabs(keys("u", [2]int{0, 1}, [2]int{1}), keys("t", [2]int{})), links(link("u", "m", "t", impl.HowNone), link("u", "k", "t", impl.HowStop)), ref("t", 1), nil},
		"held, behind a row that goes":             {tabs(keys("t", [2]int{}), keys("u", [2]int{1}), keys("v", [2]int{1})), links(link("u", "k", "t", impl.HowGone), link("v", "k", "t", impl.HowStop)), ref("t", 1), nil},
		"held by the link of a column of one name": {tabs(keys("t", [2]int{}), keys("u", [2]int{1}), keys("v", [2]int{1})), links(link("u", "k", "v", impl.HowStop), link("v", "k", "t", impl.HowGone)), ref("t", 1), nil},
	} {
		b := impl.Base{Tabs: c.tabs, Links: c.links}
		got, code := impl.BaseOff(b, c.first.Name, c.first.Id)
		if c.gone == nil {
			wantBase(t, what, b, got, code, b, impl.TabHeld)
		} else {
			wantBase(t, what, b, got, code, less(b, c.gone, nil), impl.TabFine)
		}
	}
}

func TestBaseOffNone(t *testing.T) {
	type refs = []impl.Ref
	type anew = map[impl.Ref][]impl.Val
	none2 := vals(none, none)
	for what, c := range map[string]struct {
		b     impl.Base
		first impl.Ref
		gone  []impl.Ref
		anew  map[impl.Ref][]impl.Val
	}{
		"one row":           {impl.Base{Tabs: tabs(keys("t", [2]int{}, [2]int{}), keys("u", [2]int{1, 9}, [2]int{2, 9})), Links: links(link("u", "k", "t", impl.HowNone))}, ref("t", 1), refs{ref("t", 1)}, anew{ref("u", 1): vals(none, num(9))}},
		"several rows":      {impl.Base{Tabs: tabs(keys("t", [2]int{}, [2]int{}), keys("u", [2]int{1}, [2]int{2}, [2]int{1}, [2]int{1, 5})), Links: links(link("u", "k", "t", impl.HowNone))}, ref("t", 1), refs{ref("t", 1)}, anew{ref("u", 1): none2, ref("u", 3): none2, ref("u", 4): vals(none, num(5))}},
		"no row":            {impl.Base{Tabs: tabs(keys("t", [2]int{}, [2]int{}), keys("u", [2]int{2})), Links: links(link("u", "k", "t", impl.HowNone))}, ref("t", 1), refs{ref("t", 1)}, nil},
		"by two links":      {impl.Base{Tabs: tabs(keys("t", [2]int{}, [2]int{}), keys("u", [2]int{1, 1}, [2]int{1, 2}, [2]int{2, 1}, [2]int{2, 2})), Links: links(link("u", "m", "t", impl.HowNone), link("u", "k", "t", impl.HowNone))}, ref("t", 1), refs{ref("t", 1)}, anew{ref("u", 1): none2, ref("u", 2): vals(none, num(2)), ref("u", 3): vals(num(2), none)}},
		"in its own table":  {impl.Base{Tabs: tabs(keys("t", [2]int{2, 3}, [2]int{2, 2}, [2]int{1, 2}, [2]int{2, 4})), Links: links(link("t", "k", "t", impl.HowNone), link("t", "m", "t", impl.HowNone))}, ref("t", 2), refs{ref("t", 2)}, anew{ref("t", 1): vals(none, num(3)), ref("t", 3): vals(num(1), none), ref("t", 4): vals(none, num(4))}},
		"of rows that go":   {impl.Base{Tabs: tabs(keys("t", [2]int{}, [2]int{}), keys("u", [2]int{1, 1}, [2]int{2, 1})), Links: links(link("u", "k", "t", impl.HowGone), link("u", "m", "t", impl.HowNone))}, ref("t", 1), refs{ref("t", 1), ref("u", 1)}, anew{ref("u", 2): vals(num(2), none)}},
		"of one that goes":  {impl.Base{Tabs: tabs(keys("v", [2]int{1, 2}, [2]int{2}), keys("u", [2]int{1}, [2]int{2}), keys("t", [2]int{}, [2]int{})), Links: links(link("u", "k", "t", impl.HowGone), link("v", "k", "u", impl.HowNone))}, ref("t", 1), refs{ref("t", 1), ref("u", 1)}, anew{ref("v", 1): vals(none, num(2))}},
		"of a like number":  {impl.Base{Tabs: tabs(keys("t", [2]int{}, [2]int{}), keys("u", [2]int{}, [2]int{}), keys("v", [2]int{1, 1})), Links: links(link("v", "k", "t", impl.HowNone), link("v", "m", "u", impl.HowNone))}, ref("t", 1), refs{ref("t", 1)}, anew{ref("v", 1): vals(none, num(1))}},
		"many go, and many": {impl.Base{Tabs: tabs(keys("t", [2]int{}, [2]int{1}, [2]int{0, 2}, [2]int{2, 2}, [2]int{0, 1}, [2]int{0, 5})), Links: links(link("t", "k", "t", impl.HowGone), link("t", "m", "t", impl.HowNone))}, ref("t", 1), refs{ref("t", 1), ref("t", 2), ref("t", 4)}, anew{ref("t", 3): none2, ref("t", 5): none2}},
		// The rows that were written ahead of changes, and are not named here, stay as they were written.
		"behind changes":              {past(), ref("t", 5), refs{ref("t", 5), ref("u", 1)}, anew{ref("t", 2): vals(none, num(1))}},
		"behind changes, another one": {past(), ref("t", 2), refs{ref("t", 2)}, anew{ref("t", 4): vals(none, none)}},
		"behind changes, none":        {past(), ref("t", 6), refs{ref("t", 6)}, nil},
	} {
		got, code := impl.BaseOff(c.b, c.first.Name, c.first.Id)
		wantBase(t, what, c.b, got, code, less(c.b, c.gone, c.anew), impl.TabFine)
	}
}

func TestBaseOffCodes(t *testing.T) {
	b := chain()
	for _, no := range []impl.Ref{{}, ref("t", 0), ref("t", 4), ref("t", -1), ref("w", 1), ref("", 1), ref("t", math.MaxInt), ref("u", math.MinInt), ref("k", 1)} {
		got, code := impl.BaseOff(b, no.Name, no.Id)
		wantBase(t, fmt.Sprint("off ", no), b, got, code, b, impl.TabNone)
	}
	got, code := impl.BaseOff(impl.Base{}, "t", 1)
	wantBase(t, "off of nothing", impl.Base{}, got, code, impl.Base{}, impl.TabNone)
	// With t 1 go u 1 and u 2, and v 1 holds u 1; with t 2 none goes, and with t 3 u 3 does.
	got, code = impl.BaseOff(b, "t", 1)
	wantBase(t, "off t 1", b, got, code, b, impl.TabHeld)
	got, code = impl.BaseOff(b, "t", 2)
	wantBase(t, "off t 2", b, got, code, less(b, []impl.Ref{ref("t", 2)}, map[impl.Ref][]impl.Val{ref("u", 1): vals(num(1), none)}), impl.TabFine)
	got, code = impl.BaseOff(b, "t", 3)
	wantBase(t, "off t 3", b, got, code, less(b, []impl.Ref{ref("t", 3), ref("u", 3)}, nil), impl.TabFine)
	got, code = impl.BaseOff(b, "u", 2)
	wantBase(t, "off u 2", b, got, code, less(b, []impl.Ref{ref("u", 2)}, map[impl.Ref][]impl.Val{ref("v", 2): vals(none, none), ref("v", 3): vals(none, none)}), impl.TabFine)
	b, code = impl.BaseOff(b, "v", 1)
	if code != impl.TabFine {
		t.Fatal(code)
	}
	got, code = impl.BaseOff(b, "t", 1)
	wantBase(t, "off t 1, when it is not held", b, got, code, less(b, []impl.Ref{ref("t", 1), ref("u", 1), ref("u", 2)}, map[impl.Ref][]impl.Val{ref("v", 2): vals(none, none), ref("v", 3): vals(none, none)}), impl.TabFine)
}

func TestBaseChange(t *testing.T) {
	behind := func(b impl.Base, at int, c impl.Change, l ...impl.Link) impl.Base {
		next := copyOfBase(b)
		next.Tabs[at].Table.Changes = append(next.Tabs[at].Table.Changes, c)
		if l != nil {
			next.Links = l
		}
		return next
	}
	b, old := chain(), past()
	b.Links[0].Col, b.Links[1].Col = "m", "k"
	b.Tabs[1] = keys("u", [2]int{2, 1}, [2]int{0, 1}, [2]int{3, 3})
	kept := b.Links
	for what, c := range map[string]struct {
		b    impl.Base
		name string
		c    impl.Change
		want impl.Base
		code int
	}{
		"add":                                 {b, "u", add(textCol("n")), behind(b, 1, add(textCol("n"))), impl.TabFine},
		"add, of a name that a link has":      {b, "u", add(numCol("k")), b, impl.TabForm},
		"drop of a link":                      {b, "u", drop("k"), b, impl.TabUsed},
		"drop of a link, the first one":       {b, "u", drop("m"), b, impl.TabUsed},
		"kind of a link":                      {b, "u", retype("k", impl.KindText), b, impl.TabUsed},
		"name of a link":                      {b, "u", rename("k", "n"), behind(b, 1, rename("k", "n"), kept[0], link("u", "n", "t", impl.HowNone), kept[2], kept[3]), impl.TabFine},
		"name of the first link":              {b, "u", rename("m", "abc"), behind(b, 1, rename("m", "abc"), link("u", "abc", "t", impl.HowGone), kept[1], kept[2], kept[3]), impl.TabFine},
		"name of the last link":               {b, "v", rename("m", "t"), behind(b, 2, rename("m", "t"), kept[0], kept[1], kept[2], link("v", "t", "u", impl.HowNone)), impl.TabFine},
		"name of a link, the same":            {b, "u", rename("k", "k"), behind(b, 1, rename("k", "k")), impl.TabFine},
		"drop of a column of that name":       {b, "t", drop("k"), behind(b, 0, drop("k")), impl.TabFine},
		"kind of a column of that name":       {b, "t", retype("m", impl.KindText), behind(b, 0, retype("m", impl.KindText)), impl.TabFine},
		"name of a column of that name":       {b, "t", rename("k", "n"), behind(b, 0, rename("k", "n")), impl.TabFine},
		"add of a column of that name":        {old, "u", add(numCol("r")), behind(old, 1, add(numCol("r"))), impl.TabFine},
		"drop beside a link":                  {old, "u", drop("m"), behind(old, 1, drop("m")), impl.TabFine},
		"kind beside a link":                  {old, "u", retype("m", impl.KindText), behind(old, 1, retype("m", impl.KindText)), impl.TabFine},
		"name beside a link":                  {old, "u", rename("m", "q"), behind(old, 1, rename("m", "q")), impl.TabFine},
		"name of a link behind changes":       {old, "t", rename("r", "q"), behind(old, 0, rename("r", "q"), link("t", "q", "t", impl.HowNone), old.Links[1]), impl.TabFine},
		"no table":                            {b, "w", add(textCol("n")), b, impl.TabNone},
		"no table ahead of form":              {b, "w", impl.Change{}, b, impl.TabNone},
		"no table ahead of used":              {b, "", drop("k"), b, impl.TabNone},
		"form":                                {b, "u", drop("n"), b, impl.TabForm},
		"form, nothing":                       {b, "u", impl.Change{}, b, impl.TabForm},
		"form ahead of used":                  {b, "u", impl.Change{Kind: impl.ChangeDrop, Name: "k", New: "n"}, b, impl.TabForm},
		"form ahead of used: the same Kind":   {b, "u", retype("k", impl.KindNum), b, impl.TabForm},
		"form ahead of used: no such Kind":    {b, "u", retype("k", 3), b, impl.TabForm},
		"form, a name that is there":          {b, "u", rename("k", "m"), b, impl.TabForm},
		"form, of a name that the column had": {old, "t", drop("q"), old, impl.TabForm},
	} {
		got, code := impl.BaseChange(c.b, c.name, c.c)
		wantBase(t, what, c.b, got, code, c.want, c.code)
	}
}

// The only column of a table can not be dropped, link or none: TabForm comes ahead of TabUsed; and TabUsed ahead of TabNeed and TabFull.
func TestBaseChangeCodes(t *testing.T) {
	x := impl.Table{First: []impl.Col{numCol("k"), needCol("s"), textCol("z")}, Next: 2, Rows: []impl.Row{{Id: 1, Vals: vals(num(1), text("x"), none)}}}
	full := copyOf(x)
	for range 8 {
		full.Changes = append(full.Changes, rename("z", "z"))
	}
	one := impl.Table{First: []impl.Col{numCol("k")}, Next: 1}
	self := link("t", "k", "t", impl.HowGone)
	b := impl.Base{Tabs: tabs(impl.Tab{Name: "t", Table: x}, impl.Tab{Name: "u", Table: one}), Links: links(self, link("u", "k", "t", impl.HowGone))}
	late := impl.Base{Tabs: tabs(impl.Tab{Name: "t", Table: full}), Links: links(self)}
	for what, c := range map[string]struct {
		b    impl.Base
		name string
		c    impl.Change
		code int
	}{
		"form ahead of used":         {b, "u", drop("k"), impl.TabForm},
		"used, and of one column":    {b, "u", retype("k", impl.KindText), impl.TabUsed},
		"need":                       {b, "t", retype("s", impl.KindNum), impl.TabNeed},
		"used ahead of full":         {late, "t", drop("k"), impl.TabUsed},
		"used ahead of full, a kind": {late, "t", retype("k", impl.KindText), impl.TabUsed},
		"full":                       {late, "t", drop("z"), impl.TabFull},
		"full, a name of a link":     {late, "t", rename("k", "n"), impl.TabFull},
		"full, an add":               {late, "t", add(numCol("n")), impl.TabFull},
		"need ahead of full":         {late, "t", retype("s", impl.KindNum), impl.TabNeed},
		"form ahead of full":         {late, "t", rename("n", "m"), impl.TabForm},
	} {
		got, code := impl.BaseChange(c.b, c.name, c.c)
		wantBase(t, what, c.b, got, code, c.b, c.code)
	}
}

// A link follows its column over several names, and is used still.
func TestBaseLinkFollows(t *testing.T) {
	b := chain()
	for i, name := range []string{"n", "o", "k", "p"} {
		next, code := impl.BaseChange(b, "u", rename(b.Links[0].Col, name))
		if code != impl.TabFine || next.Links[0] != link("u", name, "t", impl.HowGone) || !impl.BaseOk(next) {
			t.Fatalf("the name %d: %+v, %d", i, next, code)
		}
		b = next
		if _, code = impl.BaseChange(b, "u", drop(name)); code != impl.TabUsed {
			t.Errorf("a column of a link is dropped with %d", code)
		}
		if _, code = impl.BasePut(b, "u", sets(is(name, num(4)))); code != impl.TabLink {
			t.Errorf("a row that is not there is named with %d", code)
		}
		if list := impl.BaseDoomed(b, "t", 1); !slices.Equal(list, []impl.Ref{ref("t", 1), ref("u", 1), ref("u", 2)}) {
			t.Errorf("behind the name %s there go %v", name, list)
		}
	}
	// The name that it had is free for a column that is no link's.
	b, code := impl.BaseChange(b, "u", add(numCol("k")))
	if code != impl.TabFine || b.Links[0].Col != "p" {
		t.Fatalf("a column of the name that was: %+v, %d", b, code)
	}
	if b, code = impl.BasePut(b, "u", sets(is("k", num(77)))); code != impl.TabFine || !impl.BaseOk(b) {
		t.Errorf("a value of a column that is no link's: %+v, %d", b, code)
	}
	if _, code = impl.BaseChange(b, "u", drop("k")); code != impl.TabFine {
		t.Errorf("a column that is no link's is dropped with %d", code)
	}
}

// An Id that is gone is given no more, so what named it can not name another row by and by.
func TestBaseOffThenPut(t *testing.T) {
	b := impl.Base{Tabs: tabs(keys("t", [2]int{}), keys("u", [2]int{1})), Links: links(link("u", "k", "t", impl.HowNone))}
	b, _ = impl.BaseOff(b, "t", 1)
	b, _ = impl.BasePut(b, "t", nil)
	if row, _ := impl.TableRow(b.Tabs[1].Table, 1); !slices.Equal(row, vals(none, none)) || b.Tabs[0].Table.Rows[0].Id != 2 {
		t.Errorf("behind a row that came %+v", b)
	}
	if _, code := impl.BaseSet(b, "u", 1, sets(is("k", num(1)))); code != impl.TabLink {
		t.Errorf("a row that is gone is named with %d", code)
	}
	if _, code := impl.BaseSet(b, "u", 1, sets(is("k", num(2)))); code != impl.TabFine {
		t.Errorf("a row that came is named with %d", code)
	}
}

func TestBaseMemory(t *testing.T) {
	bases := rightBases()
	for _, what := range []string{"four tables", "a link of nothing", "two tables named \"t\"", "a row that is gone", "five links", "a table that is not ok: nine rows"} {
		bases[what] = wrongBases()[what]
	}
	told := [][]impl.Set{nil, sets(is("k", num(1))), sets(is("m", num(2)), is("k", none)), sets(is("k", num(70))), sets(is("zz", none))}
	changes := []impl.Change{{}, add(numCol("n")), drop("k"), drop("m"), rename("k", "n"), rename("m", "n"), retype("m", impl.KindText)}
	for what, b := range bases {
		g := guardBase(b)
		apart := func(call string, list []part) {
			t.Helper()
			call = what + ": " + call
			g.check(t, call)
			checkApart(t, call, list)
			g.check(t, call+"'s answer")
		}
		impl.BaseOk(g.base)
		impl.BaseSame(g.base, g.base)
		apart("asked", nil)
		for _, name := range []string{"t", "u", "v", "n", ""} {
			s := guard(three(), textCol("m"))
			y, _ := impl.BaseTable(g.base, name, s.list)
			apart("BaseTable", baseParts(y))
			s.check(t, what+": BaseTable")
			for _, col := range []string{"k", "m", "zz"} {
				y, _ := impl.BaseLink(g.base, link(name, col, "t", impl.HowNone))
				apart("BaseLink", baseParts(y))
			}
			for _, list := range told {
				s := guard(list, is("m", text("mark")))
				y, _ := impl.BasePut(g.base, name, s.list)
				apart("BasePut", baseParts(y))
				for id := range 4 {
					y, _ := impl.BaseSet(g.base, name, id, s.list)
					apart("BaseSet", baseParts(y))
				}
				s.check(t, what+": values told")
			}
			for id := range 9 {
				apart("BaseDoomed", []part{partOf(impl.BaseDoomed(g.base, name, id), ref("w", -7))})
				y, _ := impl.BaseOff(g.base, name, id)
				apart("BaseOff", baseParts(y))
			}
			for _, c := range changes {
				y, _ := impl.BaseChange(g.base, name, c)
				apart("BaseChange", baseParts(y))
			}
		}
	}
}

// Two answers to one question share nothing either.
func TestBaseAnswersApart(t *testing.T) {
	b := chain()
	var list []part
	for range 2 {
		for _, m := range []move{
			tableMove("w", numCol("k")), linkMove("t", "k", "t", impl.HowGone), putMove("u", is("k", num(1))), putMove("u", is("k", num(9))), setMove("u", 1), setMove("u", 9),
			offMove("t", 1), offMove("t", 2), offMove("t", 9), changeMove("u", rename("k", "n")), changeMove("u", drop("k")), changeMove("t", drop("k")),
		} {
			y, _ := m.base(b)
			list = append(list, baseParts(y)...)
		}
		list = append(list, partOf(impl.BaseDoomed(b, "t", 1), ref("w", -7)))
	}
	checkApart(t, "two answers", list)
	if baseText(b) != baseText(chain()) {
		t.Error("answers share memory with their argument")
	}
}

// Each bound may be met exactly, from a base of nothing on.
func TestBaseToTheBounds(t *testing.T) {
	b := impl.Base{}
	for i := range 3 {
		b, _ = tableMove("t"+string(rune('a'+i)), numCol("k"), numCol("m")).step(t, b)
	}
	for i, l := range links(link("ta", "k", "tb", impl.HowGone), link("ta", "m", "tc", impl.HowStop), link("tb", "k", "tb", impl.HowNone), link("tc", "m", "ta", impl.HowGone)) {
		next, code := impl.BaseLink(b, l)
		if code != impl.TabFine || len(next.Links) != i+1 || next.Links[i] != l {
			t.Fatalf("the link %d: %+v, %d", i, next, code)
		}
		b = next
	}
	for n := range 8 {
		for i := range 3 {
			next, code := impl.BasePut(b, "t"+string(rune('a'+i)), nil)
			if code != impl.TabFine || len(next.Tabs[i].Table.Rows) != n+1 {
				t.Fatalf("the row %d: %+v, %d", n+1, next, code)
			}
			b = next
		}
	}
	for i := range 3 {
		name := "t" + string(rune('a'+i))
		got, code := impl.BasePut(b, name, nil)
		wantBase(t, "a row too many of "+name, b, got, code, b, impl.TabFull)
		for id := 1; id <= 8; id++ {
			b, code = impl.BaseSet(b, name, id, sets(is("k", num(9-id)), is("m", num(id))))
			if code != impl.TabFine {
				t.Fatalf("the row %s %d is set with %d", name, id, code)
			}
		}
	}
	for n := range 8 {
		next, code := impl.BaseChange(b, "tb", rename("k", "k"))
		if code != impl.TabFine || len(next.Tabs[1].Table.Changes) != n+1 {
			t.Fatalf("the change %d: %+v, %d", n+1, next, code)
		}
		b = next
	}
	got, code := impl.BaseChange(b, "tb", rename("k", "k"))
	wantBase(t, "a change too many", b, got, code, b, impl.TabFull)
	for id := 1; id <= 8; id++ {
		want := []impl.Ref{ref("ta", 9-id), ref("tb", id), ref("tc", 9-id)}
		if list := impl.BaseDoomed(b, "tb", id); !slices.Equal(list, want) {
			t.Errorf("with tb %s there go %v, not %v", strconv.Itoa(id), list, want)
		}
	}
}
