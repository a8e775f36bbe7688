package tests

import (
	"fmt"
	"slices"
	"testing"

	"loop.example/custumal/impl"
)

// book is a table in which each row is written anew at each change, told anew from the document's words: it knows the columns and the values as they are, and of the past nothing but how many changes there were.
type book struct {
	cols    []impl.Col
	ids     []int
	rows    [][]impl.Val
	next    int
	changes int
}

// now is the table that TableNow must tell.
func (b book) now() impl.Table {
	x := impl.Table{First: b.cols, Next: b.next}
	for i, id := range b.ids {
		x.Rows = append(x.Rows, impl.Row{Id: id, Vals: b.rows[i]})
	}
	return x
}

// told is a row's values with others told, and the first code that applies; at is the row's place, past the end for one that comes.
func (b book) told(at int, row []impl.Val, told []impl.Set) ([]impl.Val, int) {
	names := map[string]int{}
	row = slices.Clone(row)
	for _, s := range told {
		names[s.Name]++
		col := slices.IndexFunc(b.cols, func(c impl.Col) bool { return c.Name == s.Name })
		if col < 0 || names[s.Name] > 1 || !impl.ValOk(s.Val) || s.Val.Kind != impl.KindNone && s.Val.Kind != b.cols[col].Kind {
			return nil, impl.TabForm
		}
		row[col] = s.Val
	}
	for i, c := range b.cols {
		if c.Need && row[i] == none {
			return nil, impl.TabNeed
		}
	}
	for i, c := range b.cols {
		for other, have := range b.rows {
			if c.Once && other != at && have[i] == row[i] && row[i] != none {
				return nil, impl.TabOnce
			}
		}
	}
	return row, impl.TabFine
}

func (b book) put(told []impl.Set) (book, int) {
	var row []impl.Val
	for _, c := range b.cols {
		row = append(row, c.Def)
	}
	row, code := b.told(len(b.rows), row, told)
	if code != impl.TabFine {
		return b, code
	}
	if len(b.rows) == 8 || b.next == 60 {
		return b, impl.TabFull
	}
	b.ids = append(slices.Clone(b.ids), b.next)
	b.rows = append(slices.Clone(b.rows), row)
	b.next++
	return b, impl.TabFine
}

func (b book) set(id int, told []impl.Set) (book, int) {
	at := slices.Index(b.ids, id)
	if at < 0 {
		return b, impl.TabNone
	}
	row, code := b.told(at, b.rows[at], told)
	if code != impl.TabFine {
		return b, code
	}
	b.rows = slices.Clone(b.rows)
	b.rows[at] = row
	return b, impl.TabFine
}

func (b book) off(id int) (book, int) {
	at := slices.Index(b.ids, id)
	if at < 0 {
		return b, impl.TabNone
	}
	b.ids = slices.Delete(slices.Clone(b.ids), at, at+1)
	b.rows = slices.Delete(slices.Clone(b.rows), at, at+1)
	return b, impl.TabFine
}

func (b book) change(c impl.Change) (book, int) {
	cols, ok := impl.ShapeDo(b.cols, c)
	if !ok {
		return b, impl.TabForm
	}
	var rows [][]impl.Val
	for _, row := range b.rows {
		row = impl.RowDo(b.cols, c, row)
		if !impl.RowOk(cols, row) {
			return b, impl.TabNeed
		}
		rows = append(rows, row)
	}
	if b.changes == 8 {
		return b, impl.TabFull
	}
	b.cols, b.rows = cols, rows
	b.changes++
	return b, impl.TabFine
}

// deed is one thing that is done, to a table and to a book.
type deed struct {
	name  string
	table func(x impl.Table) (impl.Table, int)
	book  func(b book) (book, int)
	// stored is the table as it must be stored behind it, row for row, given the values that a row of that Id has then.
	stored func(x impl.Table, row func(id int) []impl.Val) impl.Table
}

func putDeed(told ...impl.Set) deed {
	return deed{
		fmt.Sprintf("put %+v", told),
		func(x impl.Table) (impl.Table, int) { return impl.TablePut(x, told) },
		func(b book) (book, int) { return b.put(told) },
		func(x impl.Table, row func(id int) []impl.Val) impl.Table {
			x.Rows = append(x.Rows, impl.Row{Id: x.Next, Ver: len(x.Changes), Vals: row(x.Next)})
			x.Next++
			return x
		},
	}
}

func setDeed(id int, told ...impl.Set) deed {
	return deed{
		fmt.Sprintf("set %d %+v", id, told),
		func(x impl.Table) (impl.Table, int) { return impl.TableSet(x, id, told) },
		func(b book) (book, int) { return b.set(id, told) },
		func(x impl.Table, row func(id int) []impl.Val) impl.Table {
			for i, r := range x.Rows {
				if r.Id == id {
					x.Rows[i] = impl.Row{Id: id, Ver: len(x.Changes), Vals: row(id)}
				}
			}
			return x
		},
	}
}

func offDeed(id int) deed {
	return deed{
		fmt.Sprintf("off %d", id),
		func(x impl.Table) (impl.Table, int) { return impl.TableOff(x, id) },
		func(b book) (book, int) { return b.off(id) },
		func(x impl.Table, row func(id int) []impl.Val) impl.Table {
			x.Rows = slices.DeleteFunc(x.Rows, func(r impl.Row) bool { return r.Id == id })
			return x
		},
	}
}

func changeDeed(c impl.Change) deed {
	return deed{
		fmt.Sprintf("change %+v", c),
		func(x impl.Table) (impl.Table, int) { return impl.TableChange(x, c) },
		func(b book) (book, int) { return b.change(c) },
		func(x impl.Table, row func(id int) []impl.Val) impl.Table {
			x.Changes = append(x.Changes, c)
			return x
		},
	}
}

// someDeeds are enough that some can be done behind most others, and some can not, for each code.
func someDeeds() []deed {
	list := []deed{
		putDeed(), putDeed(is("a", num(1)), is("bb", text("12"))), putDeed(is("ccc", num(4))), putDeed(is("ccc", text("4")), is("bb", num(3))),
		putDeed(is("a", none)), putDeed(is("a", num(2)), is("a", num(2))), putDeed(is("d", text("d"))), putDeed(is("bb", text("12345"))),
		setDeed(1), setDeed(2, is("ccc", num(4))), setDeed(3, is("ccc", text("4"))), setDeed(1, is("a", none)), setDeed(2, is("bb", num(1000))), setDeed(2, is("f", none)), setDeed(1, is("bb", text("x"))),
		offDeed(1), offDeed(2), offDeed(3),
	}
	for _, c := range someChanges() {
		list = append(list, changeDeed(c))
	}
	return list
}

// manyDeeds go on with Ids and values of their own, so that a long walk comes to each bound.
func manyDeeds() []deed {
	list := someDeeds()
	for id := 1; id < 62; id++ {
		list = append(list, offDeed(id), setDeed(id, is("ccc", num(id%9))), setDeed(id, is("bb", text("x"))))
	}
	for n := range 40 {
		list = append(list, putDeed(), putDeed(is("ccc", num(n))), putDeed(is("bb", num(n))), putDeed(is("ccc", text("5"))), changeDeed(rename("a", "a")))
	}
	return list
}

// walkers are tables, and the same as books.
func walkers() map[string]struct {
	x impl.Table
	b book
} {
	type walker = struct {
		x impl.Table
		b book
	}
	bookOf := func(x impl.Table) walker {
		b := book{cols: x.First, next: x.Next}
		for _, r := range x.Rows {
			b.ids, b.rows = append(b.ids, r.Id), append(b.rows, r.Vals)
		}
		return walker{x, b}
	}
	some := impl.Table{First: three(), Next: 3, Rows: []impl.Row{{Id: 1, Vals: vals(num(5), text("12"), num(4))}, {Id: 2, Vals: vals(num(-5), text("x"), none)}}}
	late := copyOf(some)
	late.Next = 59
	return map[string]walker{
		"no rows": bookOf(impl.Table{First: three(), Next: 1}),
		"two":     bookOf(some),
		"late":    bookOf(late),
		"need":    bookOf(impl.Table{First: []impl.Col{needCol("bb"), onceCol("ccc")}, Next: 2, Rows: []impl.Row{{Id: 1, Vals: vals(text("-7"), num(4))}}}),
	}
}

// step does one thing to both, and holds the table against the book: promises 3 and 4.
func (d deed) step(t *testing.T, x impl.Table, b book) (impl.Table, book) {
	t.Helper()
	was := tableText(x)
	y, code := d.table(x)
	next, want := d.book(b)
	if tableText(x) != was {
		t.Fatalf("%s: the argument was %s, and is %+v", d.name, was, x)
	}
	if code != want {
		t.Fatalf("%s: the code is %d, not %d, of %s", d.name, code, want, was)
	}
	stored := copyOf(x)
	if code == impl.TabFine {
		stored = d.stored(stored, func(id int) []impl.Val { return next.rows[slices.Index(next.ids, id)] })
	}
	if tableText(y) != tableText(stored) {
		t.Fatalf("%s, with the code %d: of %s came %+v", d.name, code, was, y)
	}
	if !impl.TableOk(y) {
		t.Fatalf("%s, with the code %d: of %s came %+v, which is not ok", d.name, code, was, y)
	}
	if code == impl.TabFine {
		next.check(t, d.name, y)
	}
	return y, next
}

// check holds what a table tells of its rows as they are against the book.
func (b book) check(t *testing.T, what string, x impl.Table) {
	t.Helper()
	if now := impl.TableNow(x); tableText(now) != tableText(b.now()) || !impl.TableOk(now) {
		t.Fatalf("%s: TableNow of %+v is %+v, not %+v", what, x, now, b.now())
	}
	if s := impl.TableShape(x); !slices.Equal(s, b.cols) {
		t.Fatalf("%s: TableShape of %+v is %+v, not %+v", what, x, s, b.cols)
	}
	for i, id := range b.ids {
		row, ok := impl.TableRow(x, id)
		if !ok || !slices.Equal(row, b.rows[i]) {
			t.Fatalf("%s: TableRow %d of %+v is %+v, not %+v", what, id, x, row, b.rows[i])
		}
	}
	for at, c := range b.cols {
		want := map[impl.Val][]int{}
		for i, id := range b.ids {
			want[b.rows[i][at]] = append(want[b.rows[i][at]], id)
		}
		for v, have := range want {
			if ids := impl.TableFind(x, c.Name, v); !slices.Equal(ids, have) {
				t.Fatalf("%s: TableFind of %s and %+v of %+v is %v, not %v", what, c.Name, v, x, ids, have)
			}
		}
	}
}

// Promises 3 and 4: each list of at most three deeds.
func TestPromises3And4ShortWalks(t *testing.T) {
	deeds := someDeeds()
	for name, w := range walkers() {
		t.Run(name, func(t *testing.T) {
			t.Parallel()
			var walk func(x impl.Table, b book, left int)
			walk = func(x impl.Table, b book, left int) {
				if left == 0 {
					return
				}
				for _, d := range deeds {
					y, next := d.step(t, x, b)
					walk(y, next, left-1)
				}
			}
			walk(w.x, w.b, 3)
		})
	}
}

// Promises 3 and 4: long walks, up to tables that are full; which deed comes next is worked out from the one ahead, so that each run is the same.
func TestPromises3And4LongWalks(t *testing.T) {
	deeds := manyDeeds()
	seen := map[string]int{}
	for _, w := range walkers() {
		for start := range 30 {
			x, b := w.x, w.b
			pick := uint32(start)
			for range 250 {
				pick = pick*1664525 + 1013904223
				x, b = deeds[int(pick>>8)%len(deeds)].step(t, x, b)
				seen[fmt.Sprint("rows ", len(x.Rows))]++
				seen[fmt.Sprint("changes ", len(x.Changes))]++
				seen[fmt.Sprint("next ", x.Next)]++
			}
		}
	}
	for _, what := range []string{"rows 0", "rows 8", "changes 0", "changes 8", "next 1", "next 59", "next 60"} {
		if seen[what] == 0 {
			t.Errorf("no walk came to %s", what)
		}
	}
}

// Promise 4: rows that are written ahead of, between and behind each list of three changes are those of a table in which each was written anew.
func TestPromise4RowsBetweenChanges(t *testing.T) {
	first := impl.Table{First: three(), Next: 1}
	firstBook := book{cols: three(), next: 1}
	// Told in all columns that are there: numbers in the last row's way, so that they go from one Kind to the other and back.
	told := func(b book, n int) []impl.Set {
		var list []impl.Set
		for _, c := range b.cols {
			list = append(list, is(c.Name, impl.ValAs(num(10*n-7), c.Kind)))
		}
		return list
	}
	var grow func(x impl.Table, b book, done int)
	grow = func(x impl.Table, b book, done int) {
		x, b = putDeed(told(b, done)...).step(t, x, b)
		x, b = putDeed().step(t, x, b)
		if done == 3 {
			return
		}
		for _, c := range someChanges() {
			y, next := changeDeed(c).step(t, x, b)
			if next.changes > b.changes {
				anew, code := impl.TableChange(impl.TableNow(x), c)
				if code != impl.TabFine || tableText(impl.TableNow(anew)) != tableText(impl.TableNow(y)) {
					t.Fatalf("%+v: written anew ahead of %+v it is %+v", x, c, anew)
				}
				grow(y, next, done+1)
			}
		}
	}
	grow(first, firstBook, 0)
}
