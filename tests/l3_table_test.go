package tests

import (
	"fmt"
	"math"
	"slices"
	"strconv"
	"testing"

	"loop.example/custumal/impl"
)

func is(name string, v impl.Val) impl.Set { return impl.Set{Name: name, Val: v} }

func sets(list ...impl.Set) []impl.Set { return list }

func vals(list ...impl.Val) []impl.Val { return list }

// tableText tells all parts of a table, so that two of them can be held against each other without the program; no list and an empty one are told alike.
func tableText(x impl.Table) string { return fmt.Sprintf("%+v", x) }

func copyOf(x impl.Table) impl.Table {
	y := impl.Table{First: slices.Clone(x.First), Changes: slices.Clone(x.Changes), Next: x.Next}
	for _, r := range x.Rows {
		y.Rows = append(y.Rows, impl.Row{Id: r.Id, Ver: r.Ver, Vals: slices.Clone(r.Vals)})
	}
	return y
}

// rich is a table with rows that were written ahead of, between and behind changes of all four Kinds.
func rich() impl.Table {
	return impl.Table{
		First: three(),
		Changes: []impl.Change{
			add(impl.Col{Name: "d", Kind: impl.KindText, Need: true, Def: text("q")}),
			retype("bb", impl.KindNum),
			rename("ccc", "k"),
			drop("a"),
		},
		Rows: []impl.Row{
			{Id: 1, Ver: 0, Vals: vals(num(5), text("12"), num(3))},
			{Id: 3, Ver: 1, Vals: vals(num(6), text("x"), none, text("w"))},
			{Id: 4, Ver: 2, Vals: vals(num(7), num(9), none, text("w"))},
			{Id: 7, Ver: 4, Vals: vals(none, num(4), text(""))},
		},
		Next: 9,
	}
}

func richCols() []impl.Col {
	return []impl.Col{
		numCol("bb"),
		{Name: "k", Kind: impl.KindNum, Once: true},
		{Name: "d", Kind: impl.KindText, Need: true, Def: text("q")},
	}
}

// richVals is the values of rich as they are, by their Ids.
func richVals() map[int][]impl.Val {
	return map[int][]impl.Val{
		1: vals(num(12), num(3), text("q")),
		3: vals(none, none, text("w")),
		4: vals(num(9), none, text("w")),
		7: vals(none, num(4), text("")),
	}
}

// rowsOf is a table of one column a with that many rows, of which the Ids and the values go from 1 on.
func rowsOf(c impl.Col, n int) impl.Table {
	x := impl.Table{First: []impl.Col{c}, Next: n + 1}
	for i := range n {
		x.Rows = append(x.Rows, impl.Row{Id: i + 1, Vals: vals(impl.ValAs(num(i+1), c.Kind))})
	}
	return x
}

// changesOf is a table of one column a with that many changes.
func changesOf(n int) impl.Table {
	x := impl.Table{First: colsOf(1), Next: 1}
	for range n {
		x.Changes = append(x.Changes, rename("a", "a"))
	}
	return x
}

func onceCol(name string) impl.Col { return impl.Col{Name: name, Kind: impl.KindNum, Once: true} }

func needCol(name string) impl.Col { return impl.Col{Name: name, Kind: impl.KindText, Need: true} }

// rightTables are ok, each at an edge of its own.
func rightTables() map[string]impl.Table {
	full := rowsOf(numCol("a"), 8)
	full.Next = 60
	full.Rows[7].Id = 59
	late := rowsOf(numCol("a"), 0)
	late.Next = 60
	return map[string]impl.Table{
		"rich":                   rich(),
		"no rows":                rowsOf(numCol("a"), 0),
		"one row":                rowsOf(numCol("a"), 1),
		"eight rows":             rowsOf(onceCol("a"), 8),
		"eight changes":          changesOf(8),
		"the last Id":            full,
		"no rows, and Next 60":   late,
		"five columns":           {First: colsOf(5), Next: 1, Rows: nil},
		"empty lists":            {First: colsOf(1), Changes: []impl.Change{}, Rows: []impl.Row{}, Next: 1},
		"nothing twice":          {First: []impl.Col{onceCol("a")}, Next: 3, Rows: []impl.Row{{Id: 1, Vals: vals(none)}, {Id: 2, Vals: vals(none)}}},
		"twice, and not by Once": {First: colsOf(1), Next: 3, Rows: []impl.Row{{Id: 1, Vals: vals(num(1))}, {Id: 2, Vals: vals(num(1))}}},
		// Of what was in between no more is asked than that the changes can be done.
		"nothing in a column with Need that is dropped by now": {
			First: []impl.Col{needCol("a"), numCol("b")}, Changes: []impl.Change{retype("a", impl.KindNum), drop("a")}, Next: 2,
			Rows: []impl.Row{{Id: 1, Vals: vals(text("x"), none)}},
		},
		"twice in a column with Once that is dropped by now": {
			First: []impl.Col{onceCol("a"), numCol("b")}, Changes: []impl.Change{drop("a")}, Next: 3,
			Rows: []impl.Row{{Id: 1, Vals: vals(num(5), none)}, {Id: 2, Vals: vals(num(5), none)}},
		},
		// As they were written they are the same, and as they are they are not.
		"one text in a column with Once, and nothing that was made of it": {
			First: []impl.Col{{Name: "a", Kind: impl.KindText, Once: true}}, Changes: []impl.Change{retype("a", impl.KindNum), retype("a", impl.KindText)}, Next: 3,
			Rows: []impl.Row{{Id: 1, Vals: vals(text("x"))}, {Id: 2, Ver: 2, Vals: vals(text("x"))}},
		},
	}
}

// wrongTables are not ok, each for a reason of its own.
func wrongTables() map[string]impl.Table {
	list := map[string]impl.Table{
		"nothing": {},
		"nothing as it is in a column with Need": {
			First: []impl.Col{needCol("a")}, Changes: []impl.Change{retype("a", impl.KindNum)}, Next: 2,
			Rows: []impl.Row{{Id: 1, Vals: vals(text("x"))}},
		},
		"twice as it is": {
			First: []impl.Col{onceCol("a")}, Changes: []impl.Change{retype("a", impl.KindText)}, Next: 3,
			Rows: []impl.Row{{Id: 1, Vals: vals(num(5))}, {Id: 2, Ver: 1, Vals: vals(text("5"))}},
		},
		"twice as it is, in the last column": {
			First: []impl.Col{numCol("a"), onceCol("b")}, Next: 4,
			Rows: []impl.Row{{Id: 1, Vals: vals(none, num(0))}, {Id: 2, Vals: vals(none, none)}, {Id: 3, Vals: vals(none, num(0))}},
		},
		"an empty text twice": {
			First: []impl.Col{{Name: "a", Kind: impl.KindText, Once: true}}, Next: 3,
			Rows: []impl.Row{{Id: 1, Vals: vals(text(""))}, {Id: 2, Vals: vals(text(""))}},
		},
		"nine rows":                   rowsOf(numCol("a"), 9),
		"twenty rows":                 rowsOf(numCol("a"), 20),
		"nine changes":                changesOf(9),
		"ninety changes":              changesOf(90),
		"no columns that are dropped": {Changes: []impl.Change{drop("a")}, Next: 1},
	}
	edit := func(what string, do func(x *impl.Table)) {
		x := rich()
		do(&x)
		list[what] = x
	}
	for _, next := range []int{0, -1, 1, 3, 6, 7, 61, math.MaxInt, math.MinInt} {
		edit("Next "+strconv.Itoa(next), func(x *impl.Table) { x.Next = next })
	}
	for _, next := range []int{0, -1, 61, math.MaxInt, math.MinInt} {
		list["no rows, and Next "+strconv.Itoa(next)] = impl.Table{First: colsOf(1), Next: next}
	}
	for i, s := range wrongShapes() {
		list["columns that are not ok "+strconv.Itoa(i)] = impl.Table{First: s, Next: 1}
	}
	for at, ids := range [][]int{{0, -1, 3, 4, 7, 9, math.MinInt, math.MaxInt}, {1, 0, 4, 5, 7, 9}, {3, 1, 7, 8, 9}, {4, 3, 1, 0, -7, 9, 10, math.MaxInt}} {
		for _, id := range ids {
			edit(fmt.Sprintf("the Id %d at %d", id, at), func(x *impl.Table) { x.Rows[at].Id = id })
		}
		for _, ver := range []int{-1, 5, 6, math.MinInt, math.MaxInt} {
			edit(fmt.Sprintf("the Ver %d at %d", ver, at), func(x *impl.Table) { x.Rows[at].Ver = ver })
		}
		edit(fmt.Sprintf("no values at %d", at), func(x *impl.Table) { x.Rows[at].Vals = nil })
		edit(fmt.Sprintf("a value too few at %d", at), func(x *impl.Table) { x.Rows[at].Vals = x.Rows[at].Vals[:len(x.Rows[at].Vals)-1] })
		edit(fmt.Sprintf("a value too many at %d", at), func(x *impl.Table) { x.Rows[at].Vals = append(x.Rows[at].Vals, none) })
		for i, v := range wrongVals() {
			edit(fmt.Sprintf("the value %d that is not ok at %d", i, at), func(x *impl.Table) { x.Rows[at].Vals[1] = v })
		}
	}
	edit("a row told as it is, and not as it was", func(x *impl.Table) { x.Rows[0].Vals = richVals()[1] })
	edit("a row told as it was, and not as it is", func(x *impl.Table) { x.Rows[0].Ver = 4 })
	edit("a row of another Kind by its Ver", func(x *impl.Table) { x.Rows[2].Ver = 1 })
	edit("a value of another Kind", func(x *impl.Table) { x.Rows[3].Vals[0] = text("1") })
	edit("nothing where it was needed", func(x *impl.Table) { x.Rows[0].Vals[0] = none })
	edit("nothing where it is needed", func(x *impl.Table) { x.Rows[3].Vals[2] = none })
	edit("a value twice over a change", func(x *impl.Table) { x.Rows[3].Vals[1] = num(3) })
	for at := range rich().Changes {
		for i, c := range []impl.Change{{}, {Kind: 5}, drop("zz"), add(numCol("bb")), rename("bb", "d"), retype("bb", 3), {Kind: impl.ChangeDrop, Name: "bb", New: "z"}} {
			edit(fmt.Sprintf("the wrong change %d at %d", i, at), func(x *impl.Table) { x.Changes[at] = c })
		}
	}
	edit("a change that can not be done behind all", func(x *impl.Table) { x.Changes = append(x.Changes, drop("a")) })
	return list
}

func TestTableBounds(t *testing.T) {
	if impl.TabFine != 0 || impl.TabForm != 1 || impl.TabNeed != 2 || impl.TabOnce != 3 || impl.TabFull != 4 || impl.TabNone != 5 {
		t.Error("a code is another one than the document's")
	}
	if impl.RowMost != 8 || impl.ChangesMost != 8 || impl.NextMost != 60 {
		t.Error("a bound is another one than the document's")
	}
}

func TestTableNew(t *testing.T) {
	for _, s := range [][]impl.Col{colsOf(1), colsOf(5), three(), richCols()} {
		x := impl.TableNew(s)
		if tableText(x) != tableText(impl.Table{First: s, Next: 1}) || !impl.TableOk(x) {
			t.Errorf("TableNew(%#v) is %#v", s, x)
		}
	}
	for _, s := range wrongShapes() {
		if x := impl.TableNew(s); tableText(x) != tableText(impl.Table{}) {
			t.Errorf("TableNew(%#v) is %#v", s, x)
		}
	}
}

func TestTableOkRight(t *testing.T) {
	for what, x := range rightTables() {
		if !impl.TableOk(x) {
			t.Errorf("%s: TableOk(%#v) is false", what, x)
		}
	}
}

// Of a table that is not ok each function has an answer of its own, whatever else it is given.
func TestWrongTables(t *testing.T) {
	for what, x := range wrongTables() {
		if impl.TableOk(x) {
			t.Errorf("%s: TableOk(%#v) is true", what, x)
		}
		if s := impl.TableShape(x); len(s) != 0 {
			t.Errorf("%s: TableShape is %#v", what, s)
		}
		if y := impl.TableNow(x); tableText(y) != tableText(impl.Table{}) {
			t.Errorf("%s: TableNow is %#v", what, y)
		}
		for id := -1; id < 12; id++ {
			if row, ok := impl.TableRow(x, id); ok || len(row) != 0 {
				t.Errorf("%s: TableRow(%d) is %#v, %v", what, id, row, ok)
			}
			y, code := impl.TableSet(x, id, nil)
			wantNothing(t, what+": TableSet", y, code)
			y, code = impl.TableSet(x, id, sets(is("zz", none)))
			wantNothing(t, what+": TableSet of no column", y, code)
			y, code = impl.TableOff(x, id)
			wantNothing(t, what+": TableOff", y, code)
		}
		for _, list := range [][]impl.Set{nil, sets(is("a", num(1))), sets(is("bb", num(1)), is("d", text("x"))), sets(is("zz", none))} {
			y, code := impl.TablePut(x, list)
			wantNothing(t, what+": TablePut", y, code)
		}
		for _, c := range []impl.Change{{}, rename("a", "a"), rename("bb", "bb"), add(textCol("n")), drop("d")} {
			y, code := impl.TableChange(x, c)
			wantNothing(t, what+": TableChange", y, code)
		}
		for _, name := range []string{"a", "bb", "k", "d", ""} {
			for _, v := range vals(none, num(12), num(5), text("w"), text("x")) {
				if ids := impl.TableFind(x, name, v); len(ids) != 0 {
					t.Errorf("%s: TableFind(%q, %#v) is %v", what, name, v, ids)
				}
			}
		}
	}
}

func wantNothing(t *testing.T, what string, x impl.Table, code int) {
	t.Helper()
	if tableText(x) != tableText(impl.Table{}) || code != impl.TabForm {
		t.Errorf("%s is %#v, %d", what, x, code)
	}
}

func TestTableSame(t *testing.T) {
	for what, x := range rightTables() {
		if !impl.TableSame(x, copyOf(x)) {
			t.Errorf("%s is not the same as itself", what)
		}
	}
	for what, x := range wrongTables() {
		if !impl.TableSame(x, copyOf(x)) {
			t.Errorf("%s is not the same as itself", what)
		}
	}
	for i, edit := range []func(x *impl.Table){
		func(x *impl.Table) { x.First = nil },
		func(x *impl.Table) { x.First = x.First[:2] },
		func(x *impl.Table) { x.First = append(x.First, numCol("z")) },
		func(x *impl.Table) { x.First[1].Name = "z" },
		func(x *impl.Table) { x.First[0].Def = none },
		func(x *impl.Table) { x.First[0], x.First[1] = x.First[1], x.First[0] },
		func(x *impl.Table) { x.Changes = nil },
		func(x *impl.Table) { x.Changes = x.Changes[:3] },
		func(x *impl.Table) { x.Changes = append(x.Changes, drop("d")) },
		func(x *impl.Table) { x.Changes[3].Kind = impl.ChangeName },
		func(x *impl.Table) { x.Changes[3].Name = "z" },
		func(x *impl.Table) { x.Changes[2].New = "z" },
		func(x *impl.Table) { x.Changes[0].Col.Def = text("z") },
		func(x *impl.Table) { x.Rows = nil },
		func(x *impl.Table) { x.Rows = x.Rows[:3] },
		func(x *impl.Table) { x.Rows = x.Rows[1:] },
		func(x *impl.Table) { x.Rows = append(x.Rows, impl.Row{}) },
		func(x *impl.Table) { x.Rows[3].Id = 8 },
		func(x *impl.Table) { x.Rows[0].Id = 2 },
		func(x *impl.Table) { x.Rows[3].Ver = 3 },
		func(x *impl.Table) { x.Rows[2].Vals = nil },
		func(x *impl.Table) { x.Rows[2].Vals = append(x.Rows[2].Vals, none) },
		func(x *impl.Table) { x.Rows[0].Vals[2] = num(4) },
		func(x *impl.Table) { x.Rows[3].Vals[2] = none },
		func(x *impl.Table) { x.Rows[0].Vals[0].Text = "a" },
		func(x *impl.Table) { x.Next = 10 },
	} {
		x := rich()
		edit(&x)
		if impl.TableSame(x, rich()) || impl.TableSame(rich(), x) {
			t.Errorf("the edit %d is the same", i)
		}
	}
	// Two tables that tell the same as they are need not be the same.
	if impl.TableSame(rich(), impl.TableNow(rich())) {
		t.Error("a table is the same as one whose rows were written anew")
	}
	none, empty := impl.Table{}, impl.Table{First: []impl.Col{}, Changes: []impl.Change{}, Rows: []impl.Row{}}
	if !impl.TableSame(none, empty) || !impl.TableSame(empty, none) {
		t.Error("nothing is not the same as nothing")
	}
	none.Rows, empty.Rows = []impl.Row{{}}, []impl.Row{{Vals: []impl.Val{}}}
	if !impl.TableSame(none, empty) || !impl.TableSame(empty, none) {
		t.Error("a row of nothing is not the same as one of nothing")
	}
}

func TestTableRead(t *testing.T) {
	x := rich()
	if s := impl.TableShape(x); !slices.Equal(s, richCols()) {
		t.Errorf("TableShape is %#v", s)
	}
	for id := -2; id < 70; id++ {
		want, there := richVals()[id]
		if row, ok := impl.TableRow(x, id); ok != there || !slices.Equal(row, want) {
			t.Errorf("TableRow(%d) is %#v, %v", id, row, ok)
		}
	}
	for _, id := range []int{math.MinInt, math.MaxInt} {
		if row, ok := impl.TableRow(x, id); ok || len(row) != 0 {
			t.Errorf("TableRow(%d) is %#v, %v", id, row, ok)
		}
	}
	now := impl.Table{First: richCols(), Next: 9}
	for _, r := range x.Rows {
		now.Rows = append(now.Rows, impl.Row{Id: r.Id, Vals: richVals()[r.Id]})
	}
	if y := impl.TableNow(x); tableText(y) != tableText(now) || !impl.TableOk(y) {
		t.Errorf("TableNow is %#v", y)
	}
	if y := impl.TableNow(now); tableText(y) != tableText(now) {
		t.Errorf("TableNow of TableNow is %#v", y)
	}
}

func TestTableFind(t *testing.T) {
	for _, x := range []struct {
		name string
		v    impl.Val
		want []int
	}{
		{"bb", none, []int{3, 7}}, {"bb", num(12), []int{1}}, {"bb", num(9), []int{4}}, {"bb", num(0), nil},
		// As they were written, and not as they are.
		{"bb", text("12"), nil}, {"bb", text("x"), nil}, {"a", num(5), nil}, {"a", none, nil}, {"ccc", num(3), nil}, {"ccc", none, nil},
		{"k", num(3), []int{1}}, {"k", num(4), []int{7}}, {"k", none, []int{3, 4}},
		{"d", text("w"), []int{3, 4}}, {"d", text("q"), []int{1}}, {"d", text(""), []int{7}}, {"d", none, nil},
		{"", none, nil}, {"zz", none, nil}, {"abcd", none, nil}, {"\xff", num(3), nil},
	} {
		if ids := impl.TableFind(rich(), x.name, x.v); !slices.Equal(ids, x.want) {
			t.Errorf("TableFind(%q, %#v) is %v", x.name, x.v, ids)
		}
	}
	for _, v := range wrongVals() {
		for _, name := range []string{"bb", "k", "d"} {
			if ids := impl.TableFind(rich(), name, v); len(ids) != 0 {
				t.Errorf("TableFind(%q, %#v) is %v", name, v, ids)
			}
		}
	}
	same := rowsOf(numCol("a"), 8)
	for i := range same.Rows {
		same.Rows[i].Vals[0] = num(6)
	}
	if ids := impl.TableFind(same, "a", num(6)); !slices.Equal(ids, []int{1, 2, 3, 4, 5, 6, 7, 8}) {
		t.Errorf("TableFind of all rows is %v", ids)
	}
}

// wantTable holds a table and a code against those that must come; with another code than TabFine the table must be as it was.
func wantTable(t *testing.T, what string, was impl.Table, got impl.Table, code int, want impl.Table, wantCode int) {
	t.Helper()
	if wantCode != impl.TabFine {
		want = was
	}
	if code != wantCode || tableText(got) != tableText(want) {
		t.Errorf("%s: the code is %d, not %d; of %+v came %+v, not %+v", what, code, wantCode, was, got, want)
	}
	if !impl.TableOk(got) {
		t.Errorf("%s: %+v is not ok", what, got)
	}
}

func TestTablePut(t *testing.T) {
	put := func(x impl.Table, row ...impl.Val) impl.Table {
		y := copyOf(x)
		y.Rows = append(y.Rows, impl.Row{Id: x.Next, Ver: len(x.Changes), Vals: row})
		y.Next++
		return y
	}
	x := rich()
	for what, c := range map[string]struct {
		told []impl.Set
		row  []impl.Val
	}{
		"none told":                {nil, vals(none, none, text("q"))},
		"all told":                 {sets(is("bb", num(1)), is("k", num(2)), is("d", text("e"))), vals(num(1), num(2), text("e"))},
		"told in another order":    {sets(is("d", text("e")), is("bb", num(1)), is("k", num(2))), vals(num(1), num(2), text("e"))},
		"nothing told":             {sets(is("bb", none), is("k", none)), vals(none, none, text("q"))},
		"a value as it was":        {sets(is("k", num(5))), vals(none, num(5), text("q"))},
		"the edges of a number":    {sets(is("bb", num(-999)), is("k", num(999))), vals(num(-999), num(999), text("q"))},
		"the edges of a text":      {sets(is("d", text("abcd"))), vals(none, none, text("abcd"))},
		"the empty text is needed": {sets(is("d", text(""))), vals(none, none, text(""))},
	} {
		got, code := impl.TablePut(x, c.told)
		wantTable(t, what, x, got, code, put(x, c.row...), impl.TabFine)
	}
	// Def is that of the columns as they are.
	y := impl.Table{First: []impl.Col{{Name: "a", Kind: impl.KindText, Def: text("7")}}, Changes: []impl.Change{retype("a", impl.KindNum), add(impl.Col{Name: "b", Kind: impl.KindText, Def: text("z")})}, Next: 1}
	got, code := impl.TablePut(y, nil)
	wantTable(t, "Def behind changes", y, got, code, put(y, num(7), text("z")), impl.TabFine)
}

// wrongTold are values told that rich can not have, each for a reason of its own.
func wrongTold() map[string][]impl.Set {
	list := map[string][]impl.Set{
		"of no column":                    sets(is("zz", num(1))),
		"of no column, and nothing":       sets(is("zz", none)),
		"of no name":                      sets(is("", num(1))),
		"of a column that is dropped":     sets(is("a", num(1))),
		"of a name that a column had":     sets(is("ccc", num(1))),
		"of one column twice":             sets(is("bb", num(1)), is("bb", num(1))),
		"of one column twice, and others": sets(is("k", none), is("bb", num(1)), is("k", none)),
		"of a Kind that the column had":   sets(is("bb", text("12"))),
		"of another Kind":                 sets(is("d", num(1))),
		"of no column behind others":      sets(is("bb", num(1)), is("k", num(9)), is("d", text("x")), is("zz", none)),
	}
	for i, v := range wrongVals() {
		for _, name := range []string{"bb", "k", "d"} {
			list["not ok in "+name+" "+strconv.Itoa(i)] = sets(is(name, v))
		}
	}
	many := sets()
	for range 1000 {
		many = append(many, is("bb", num(1)))
	}
	list["very many"] = many
	return list
}

func TestTablePutCodes(t *testing.T) {
	for what, told := range wrongTold() {
		x := rich()
		got, code := impl.TablePut(x, told)
		wantTable(t, "values "+what, x, got, code, x, impl.TabForm)
	}
	// A value is asked for in a, and each is there once in c.
	cols := []impl.Col{{Name: "a", Kind: impl.KindNum, Need: true}, textCol("b"), onceCol("c")}
	x := impl.Table{First: cols, Next: 3, Rows: []impl.Row{{Id: 1, Vals: vals(num(1), none, num(7))}, {Id: 2, Vals: vals(num(1), none, none)}}}
	full := impl.Table{First: cols, Next: 9}
	for id := 1; id <= 8; id++ {
		full.Rows = append(full.Rows, impl.Row{Id: id, Vals: vals(num(1), none, num(id))})
	}
	last := copyOf(x)
	last.Next = 60
	form, need, once := is("b", num(1)), is("a", none), is("c", num(7))
	for what, c := range map[string]struct {
		x    impl.Table
		told []impl.Set
		code int
	}{
		"fine":                 {x, sets(is("a", num(1))), impl.TabFine},
		"form":                 {x, sets(is("a", num(1)), form), impl.TabForm},
		"need, not told":       {x, sets(is("c", num(8))), impl.TabNeed},
		"need, told nothing":   {x, sets(need), impl.TabNeed},
		"need, none told":      {x, nil, impl.TabNeed},
		"once":                 {x, sets(is("a", num(1)), once), impl.TabOnce},
		"nothing once more":    {x, sets(is("a", num(1)), is("c", none)), impl.TabFine},
		"full of rows":         {full, sets(is("a", num(1))), impl.TabFull},
		"at the last Next":     {last, sets(is("a", num(1))), impl.TabFull},
		"form ahead of need":   {x, sets(need, form), impl.TabForm},
		"form ahead of once":   {x, sets(is("a", num(1)), once, form), impl.TabForm},
		"form ahead of full":   {full, sets(is("a", num(1)), form), impl.TabForm},
		"form ahead of a last": {last, sets(is("a", num(1)), form), impl.TabForm},
		"form ahead of all":    {full, sets(once, form), impl.TabForm},
		"need ahead of once":   {x, sets(once), impl.TabNeed},
		"need ahead of full":   {full, sets(need), impl.TabNeed},
		"need ahead of a last": {last, nil, impl.TabNeed},
		"once ahead of full":   {full, sets(is("a", num(1)), once), impl.TabOnce},
		"once ahead of a last": {last, sets(is("a", num(1)), once), impl.TabOnce},
	} {
		got, code := impl.TablePut(c.x, c.told)
		want := copyOf(c.x)
		want.Rows = append(want.Rows, impl.Row{Id: 3, Vals: vals(num(1), none, none)})
		want.Next = 4
		wantTable(t, what, c.x, got, code, want, c.code)
	}
}

func TestTableSet(t *testing.T) {
	x := rich()
	for what, c := range map[string]struct {
		id   int
		told []impl.Set
		row  []impl.Val
	}{
		"none told, a row of long ago":  {1, nil, vals(num(12), num(3), text("q"))},
		"none told, a row of now":       {7, nil, vals(none, num(4), text(""))},
		"one told, the first row":       {1, sets(is("bb", none)), vals(none, num(3), text("q"))},
		"one told, a row in between":    {3, sets(is("k", num(8))), vals(none, num(8), text("w"))},
		"all told, in another order":    {4, sets(is("d", text("n")), is("k", num(1)), is("bb", num(2))), vals(num(2), num(1), text("n"))},
		"its own value once more":       {1, sets(is("k", num(3))), vals(num(12), num(3), text("q"))},
		"its own value, the last row":   {7, sets(is("k", num(4)), is("bb", num(4))), vals(num(4), num(4), text(""))},
		"nothing in place of its value": {7, sets(is("k", none)), vals(none, none, text(""))},
		"a value that it had":           {1, sets(is("k", num(5))), vals(num(12), num(5), text("q"))},
	} {
		want := copyOf(x)
		at := slices.IndexFunc(want.Rows, func(r impl.Row) bool { return r.Id == c.id })
		want.Rows[at] = impl.Row{Id: c.id, Ver: 4, Vals: c.row}
		got, code := impl.TableSet(x, c.id, c.told)
		wantTable(t, what, x, got, code, want, impl.TabFine)
	}
}

func TestTableSetCodes(t *testing.T) {
	x := rich()
	for what, told := range wrongTold() {
		for _, id := range []int{1, 4, 7} {
			got, code := impl.TableSet(x, id, told)
			wantTable(t, "values "+what, x, got, code, x, impl.TabForm)
		}
		got, code := impl.TableSet(x, 2, told)
		wantTable(t, "none ahead of form: "+what, x, got, code, x, impl.TabNone)
	}
	for what, c := range map[string]struct {
		id   int
		told []impl.Set
		code int
	}{
		"need":                    {1, sets(is("d", none)), impl.TabNeed},
		"need, of the last row":   {7, sets(is("bb", num(1)), is("d", none)), impl.TabNeed},
		"once":                    {1, sets(is("k", num(4))), impl.TabOnce},
		"once, from long ago":     {7, sets(is("k", num(3))), impl.TabOnce},
		"form ahead of need":      {1, sets(is("d", none), is("zz", none)), impl.TabForm},
		"form ahead of once":      {1, sets(is("k", num(4)), is("k", num(4))), impl.TabForm},
		"need ahead of once":      {1, sets(is("k", num(4)), is("d", none)), impl.TabNeed},
		"none, between two":       {2, nil, impl.TabNone},
		"none, Next":              {9, nil, impl.TabNone},
		"none, 0":                 {0, nil, impl.TabNone},
		"none, below 0":           {-1, nil, impl.TabNone},
		"none, the last":          {math.MaxInt, nil, impl.TabNone},
		"none, the first":         {math.MinInt, nil, impl.TabNone},
		"none ahead of need":      {2, sets(is("d", none)), impl.TabNone},
		"none ahead of once":      {8, sets(is("k", num(4))), impl.TabNone},
		"none ahead of all three": {8, sets(is("k", num(4)), is("d", none), is("zz", none)), impl.TabNone},
	} {
		got, code := impl.TableSet(x, c.id, c.told)
		wantTable(t, what, x, got, code, x, c.code)
	}
	// What is full is no matter here.
	full := rowsOf(onceCol("a"), 8)
	full.Next = 60
	want := copyOf(full)
	want.Rows[3].Vals[0] = num(9)
	got, code := impl.TableSet(full, 4, sets(is("a", num(9))))
	wantTable(t, "a full table", full, got, code, want, impl.TabFine)
}

func TestTableOff(t *testing.T) {
	x := rich()
	for at, r := range x.Rows {
		want := copyOf(x)
		want.Rows = slices.Delete(want.Rows, at, at+1)
		got, code := impl.TableOff(x, r.Id)
		wantTable(t, fmt.Sprint("off ", r.Id), x, got, code, want, impl.TabFine)
	}
	for _, id := range []int{0, -1, 2, 5, 6, 8, 9, 10, 60, math.MaxInt, math.MinInt} {
		got, code := impl.TableOff(x, id)
		wantTable(t, fmt.Sprint("off ", id), x, got, code, x, impl.TabNone)
	}
	empty := rowsOf(numCol("a"), 0)
	got, code := impl.TableOff(empty, 1)
	wantTable(t, "off of no rows", empty, got, code, empty, impl.TabNone)
}

func TestTableChange(t *testing.T) {
	x := rich()
	for _, c := range []impl.Change{
		add(numCol("a")), add(onceCol("n")), add(impl.Col{Name: "n", Kind: impl.KindText, Need: true, Def: text("")}),
		drop("bb"), drop("k"), drop("d"),
		rename("bb", "a"), rename("d", "ccc"), rename("k", "k"),
		retype("bb", impl.KindText), retype("k", impl.KindText),
	} {
		want := copyOf(x)
		want.Changes = append(want.Changes, c)
		got, code := impl.TableChange(x, c)
		wantTable(t, fmt.Sprintf("%+v", c), x, got, code, want, impl.TabFine)
		s, _ := impl.ShapeDo(richCols(), c)
		if !slices.Equal(impl.TableShape(got), s) {
			t.Errorf("the columns behind %+v are %+v", c, impl.TableShape(got))
		}
		for id, row := range richVals() {
			if v, ok := impl.TableRow(got, id); !ok || !slices.Equal(v, impl.RowDo(richCols(), c, row)) {
				t.Errorf("the row %d behind %+v is %+v, %v", id, c, v, ok)
			}
		}
	}
}

func TestTableChangeCodes(t *testing.T) {
	x := rich()
	for _, c := range []impl.Change{
		{}, {Kind: 5}, {Kind: -1, Name: "bb"}, {Kind: impl.ChangeDrop, Name: "bb", New: "z"},
		add(numCol("bb")), add(impl.Col{Name: "n", Kind: impl.KindNum, Need: true}), add(impl.Col{Name: "n", Kind: 3}), add(numCol("abcd")),
		drop("a"), drop("ccc"), drop("zz"), drop(""), rename("a", "z"), rename("bb", "k"), rename("bb", "abcd"),
		retype("bb", impl.KindNum), retype("d", impl.KindText), retype("d", 3), retype("a", impl.KindText),
	} {
		got, code := impl.TableChange(x, c)
		wantTable(t, fmt.Sprintf("%+v", c), x, got, code, x, impl.TabForm)
	}
	got, code := impl.TableChange(x, retype("d", impl.KindNum))
	wantTable(t, "need", x, got, code, x, impl.TabNeed)

	// That a row was ok when it was written is not enough, and one row that is not ok is.
	numbers := impl.Table{First: []impl.Col{needCol("a")}, Next: 4, Rows: []impl.Row{{Id: 1, Vals: vals(text("1"))}, {Id: 3, Vals: vals(text("-9"))}}}
	want := copyOf(numbers)
	want.Changes = append(want.Changes, retype("a", impl.KindNum))
	got, code = impl.TableChange(numbers, retype("a", impl.KindNum))
	wantTable(t, "numbers", numbers, got, code, want, impl.TabFine)
	for at := range numbers.Rows {
		y := copyOf(numbers)
		y.Rows[at].Vals[0] = text("01")
		got, code = impl.TableChange(y, retype("a", impl.KindNum))
		wantTable(t, "a text that is no number", y, got, code, y, impl.TabNeed)
	}

	full := copyOf(numbers)
	full.Rows[0].Vals[0] = text("x")
	for range 8 {
		full.Changes = append(full.Changes, rename("a", "a"))
	}
	for what, c := range map[string]struct {
		change impl.Change
		code   int
	}{
		"full":               {rename("a", "b"), impl.TabFull},
		"full, an add":       {add(numCol("b")), impl.TabFull},
		"form ahead of full": {drop("a"), impl.TabForm},
		"need ahead of full": {retype("a", impl.KindNum), impl.TabNeed},
	} {
		got, code := impl.TableChange(full, c.change)
		wantTable(t, what, full, got, code, full, c.code)
	}
}

func TestTableRowsToTheBound(t *testing.T) {
	x := impl.TableNew([]impl.Col{onceCol("a")})
	for n := 1; n <= 8; n++ {
		y, code := impl.TablePut(x, sets(is("a", num(n))))
		wantTable(t, fmt.Sprint("the row ", n), x, y, code, rowsOf(onceCol("a"), n), impl.TabFine)
		x = y
	}
	y, code := impl.TablePut(x, sets(is("a", num(9))))
	wantTable(t, "the row 9", x, y, code, x, impl.TabFull)
	// There is room again behind a row that goes.
	y, _ = impl.TableOff(x, 5)
	z, code := impl.TablePut(y, sets(is("a", num(5))))
	want := copyOf(y)
	want.Rows, want.Next = append(want.Rows, impl.Row{Id: 9, Vals: vals(num(5))}), 10
	wantTable(t, "a row behind one that is gone", y, z, code, want, impl.TabFine)
}

func TestTableChangesToTheBound(t *testing.T) {
	x := impl.TableNew(colsOf(1))
	for n := 1; n <= 8; n++ {
		y, code := impl.TableChange(x, rename("a", "a"))
		wantTable(t, fmt.Sprint("the change ", n), x, y, code, changesOf(n), impl.TabFine)
		x = y
	}
	y, code := impl.TableChange(x, rename("a", "a"))
	wantTable(t, "the change 9", x, y, code, x, impl.TabFull)
	y, code = impl.TablePut(x, nil)
	if code != impl.TabFine || y.Rows[0].Ver != 8 {
		t.Errorf("a row behind eight changes is %+v, %d", y, code)
	}
}

// An Id is given once: of the first and the last row that are taken off it is gone, up to the last one.
func TestTableNextToTheBound(t *testing.T) {
	x := impl.TableNew(colsOf(1))
	for id := 1; id <= 59; id++ {
		if x.Next != id {
			t.Fatalf("Next is %d ahead of the row %d", x.Next, id)
		}
		y, code := impl.TablePut(x, sets(is("a", num(id))))
		if code != impl.TabFine || y.Rows[len(y.Rows)-1].Id != id || y.Next != id+1 || !impl.TableOk(y) {
			t.Fatalf("the row %d: %+v, %d", id, y, code)
		}
		x = y
		if len(x.Rows) > 3 {
			gone := x.Rows[0].Id
			if id%2 == 0 {
				gone = id
			}
			y, code = impl.TableOff(x, gone)
			if _, there := impl.TableRow(y, gone); code != impl.TabFine || there || y.Next != x.Next || !impl.TableOk(y) {
				t.Fatalf("the row %d off: %+v, %d", gone, y, code)
			}
			x = y
		}
	}
	y, code := impl.TablePut(x, nil)
	wantTable(t, "Next at 60", x, y, code, x, impl.TabFull)
	for len(x.Rows) > 0 {
		x, _ = impl.TableOff(x, x.Rows[len(x.Rows)-1].Id)
	}
	y, code = impl.TablePut(x, nil)
	wantTable(t, "Next at 60 and no rows", x, y, code, x, impl.TabFull)
	if now := impl.TableNow(x); now.Next != 60 || !impl.TableOk(now) {
		t.Errorf("TableNow with Next at 60 is %+v", now)
	}
}

// What must be there once is held against values as they are, whenever they were written.
func TestTableOnceOverChanges(t *testing.T) {
	x := impl.TableNew([]impl.Col{onceCol("a")})
	x, _ = impl.TablePut(x, sets(is("a", num(5))))
	x, _ = impl.TableChange(x, retype("a", impl.KindText))
	x, _ = impl.TableChange(x, rename("a", "b"))
	y, code := impl.TablePut(x, sets(is("b", text("5"))))
	wantTable(t, "the value of a row of long ago", x, y, code, x, impl.TabOnce)
	x, code = impl.TablePut(x, sets(is("b", text("05"))))
	if code != impl.TabFine {
		t.Fatalf("another value: %d", code)
	}
	y, code = impl.TableSet(x, 2, sets(is("b", text("5"))))
	wantTable(t, "set to the value of a row of long ago", x, y, code, x, impl.TabOnce)
	y, code = impl.TableSet(x, 1, sets(is("b", text("05"))))
	wantTable(t, "a row of long ago set to a value of now", x, y, code, x, impl.TabOnce)
	x, _ = impl.TableSet(x, 1, sets(is("b", text("q"))))
	if y, code = impl.TableSet(x, 2, sets(is("b", text("5")))); code != impl.TabFine || !impl.TableOk(y) {
		t.Errorf("a value that is free again: %+v, %d", y, code)
	}
	// Behind a change by which both are nothing each of them may be told.
	y, code = impl.TableChange(x, retype("b", impl.KindNum))
	if ids := impl.TableFind(y, "b", none); code != impl.TabFine || !slices.Equal(ids, []int{1, 2}) || !impl.TableOk(y) {
		t.Errorf("two texts that are no numbers: %+v, %d", y, code)
	}
}

func TestTableMemory(t *testing.T) {
	tables := rightTables()
	for _, what := range []string{"nothing", "nine rows", "nine changes", "Next 0", "the Ver 5 at 0", "no values at 1", "a value twice over a change"} {
		tables[what] = wrongTables()[what]
	}
	some := [][]impl.Set{nil, sets(is("a", num(90))), sets(is("bb", num(1)), is("k", num(8))), sets(is("k", num(3))), sets(is("d", none)), sets(is("zz", none))}
	changes := []impl.Change{{}, add(numCol("n")), drop("bb"), rename("a", "b"), rename("bb", "b"), retype("a", impl.KindText), retype("d", impl.KindNum), retype("bb", impl.KindText)}
	for what, x := range tables {
		g := guardTable(x)
		apart := func(call string, list []part) {
			t.Helper()
			call = what + ": " + call
			g.check(t, call)
			checkApart(t, call, list)
			g.check(t, call+"'s answer")
		}
		impl.TableOk(g.table)
		impl.TableSame(g.table, g.table)
		apart("asked", nil)
		apart("TableNew", tableParts(impl.TableNew(g.table.First)))
		apart("TableShape", []part{partOf(impl.TableShape(g.table), numCol("w"))})
		apart("TableNow", tableParts(impl.TableNow(g.table)))
		for _, told := range some {
			s := guard(told, is("m", text("mark")))
			y, _ := impl.TablePut(g.table, s.list)
			apart("TablePut", tableParts(y))
			s.check(t, what+": TablePut")
			for id := range 10 {
				y, _ := impl.TableSet(g.table, id, s.list)
				apart("TableSet", tableParts(y))
				s.check(t, what+": TableSet")
			}
		}
		for id := range 10 {
			row, _ := impl.TableRow(g.table, id)
			apart("TableRow", []part{partOf(row, text("wipe"))})
			y, _ := impl.TableOff(g.table, id)
			apart("TableOff", tableParts(y))
		}
		for _, c := range changes {
			y, _ := impl.TableChange(g.table, c)
			apart("TableChange", tableParts(y))
		}
		for _, name := range []string{"a", "bb", "k", "zz"} {
			apart("TableFind", []part{partOf(impl.TableFind(g.table, name, none), -7)})
		}
	}
}

// Two answers to one question share nothing either.
func TestTableAnswersApart(t *testing.T) {
	x := rich()
	var list []part
	for range 2 {
		list = append(list, tableParts(impl.TableNew(x.First))...)
		list = append(list, tableParts(impl.TableNow(x))...)
		list = append(list, partOf(impl.TableShape(x), numCol("w")))
		row, _ := impl.TableRow(x, 1)
		list = append(list, partOf(row, text("wipe")))
		for _, d := range []deed{putDeed(), putDeed(is("zz", none)), setDeed(3), setDeed(2), offDeed(4), offDeed(2), changeDeed(drop("bb")), changeDeed(drop("a"))} {
			y, _ := d.table(x)
			list = append(list, tableParts(y)...)
		}
	}
	checkApart(t, "two answers", list)
	if tableText(x) != tableText(rich()) {
		t.Error("answers share memory with their argument")
	}
}
