package tests

import (
	"fmt"
	"slices"
	"testing"

	"loop.example/custumal/impl"
)

// The model: chapter 8 told anew from the document's words, by going through all entries.

func entryAhead(a impl.Entry, b impl.Entry) bool {
	if a.Val != b.Val {
		return valAhead(a.Val, b.Val)
	}
	return a.Id < b.Id
}

// inOrder takes the one that comes ahead of all others, over and over.
func inOrder(x []impl.Entry) []impl.Entry {
	var list []impl.Entry
	for left := slices.Clone(x); len(left) > 0; {
		first := 0
		for i, e := range left {
			if entryAhead(e, left[first]) {
				first = i
			}
		}
		list = append(list, left[first])
		left = slices.Delete(left, first, first+1)
	}
	return list
}

func plainIndexOk(x []impl.Entry) bool {
	for i, e := range x {
		if !impl.ValOk(e.Val) || e.Id < 1 || e.Id > 60 {
			return false
		}
		for _, other := range x[:i] {
			if !entryAhead(other, e) {
				return false
			}
		}
	}
	return len(x) <= 16
}

func plainPut(x []impl.Entry, e impl.Entry) ([]impl.Entry, bool) {
	if !plainIndexOk(x) {
		return nil, false
	}
	with := inOrder(append(slices.Clone(x), e))
	if !plainIndexOk(with) {
		return x, false
	}
	return with, true
}

func plainOff(x []impl.Entry, e impl.Entry) ([]impl.Entry, bool) {
	if !plainIndexOk(x) {
		return nil, false
	}
	less := slices.DeleteFunc(slices.Clone(x), func(other impl.Entry) bool { return other == e })
	return less, len(less) < len(x)
}

func plainSpan(x []impl.Entry, low impl.Val, high impl.Val) []int {
	if !plainIndexOk(x) {
		return nil
	}
	return entryIds(slices.DeleteFunc(slices.Clone(x), func(e impl.Entry) bool { return valAhead(e.Val, low) || valAhead(high, e.Val) }))
}

func plainFind(x []impl.Entry, v impl.Val) []int {
	if !plainIndexOk(x) {
		return nil
	}
	return entryIds(slices.DeleteFunc(slices.Clone(x), func(e impl.Entry) bool { return e.Val != v }))
}

func plainOnce(x []impl.Entry) bool {
	for i, e := range x {
		for _, other := range x[:i] {
			if e.Val == other.Val && e.Val != none {
				return false
			}
		}
	}
	return plainIndexOk(x)
}

// checkEntries holds all that chapter 8 tells of entries against the model, with these put in, taken out, and looked for.
func checkEntries(t *testing.T, x []impl.Entry, some []impl.Entry) {
	t.Helper()
	was := fmt.Sprint(x)
	if got, want := impl.IndexOk(x), plainIndexOk(x); got != want {
		t.Fatalf("IndexOk of %v is %v", x, got)
	}
	if got, want := impl.IndexOnce(x), plainOnce(x); got != want {
		t.Fatalf("IndexOnce of %v is %v", x, got)
	}
	for _, e := range some {
		got, ok := impl.IndexPut(x, e)
		if want, wantOk := plainPut(x, e); ok != wantOk || !slices.Equal(got, want) {
			t.Fatalf("IndexPut of %v of %v is %v, %v, not %v, %v", e, x, got, ok, want, wantOk)
		}
		got, ok = impl.IndexOff(x, e)
		if want, wantOk := plainOff(x, e); ok != wantOk || !slices.Equal(got, want) {
			t.Fatalf("IndexOff of %v of %v is %v, %v, not %v, %v", e, x, got, ok, want, wantOk)
		}
		if got, want := impl.IndexFind(x, e.Val), plainFind(x, e.Val); !slices.Equal(got, want) {
			t.Fatalf("IndexFind of %+v of %v is %v, not %v", e.Val, x, got, want)
		}
		for _, other := range some {
			if got, want := impl.IndexSpan(x, e.Val, other.Val), plainSpan(x, e.Val, other.Val); !slices.Equal(got, want) {
				t.Fatalf("IndexSpan from %+v to %+v of %v is %v, not %v", e.Val, other.Val, x, got, want)
			}
		}
	}
	if now := fmt.Sprint(x); now != was {
		t.Fatalf("the entries were %s, and are %s", was, now)
	}
}

// Promise 11: each list, in order, of some of these entries.
func TestPromise11EachFew(t *testing.T) {
	t.Parallel()
	pool := entries(entry(none, 2), entry(none, 5), entry(num(-3), 60), entry(num(4), 1), entry(num(4), 2), entry(num(4), 7), entry(text("4"), 2), entry(text("a"), 1))
	some := append(slices.Clone(pool), entry(none, 1), entry(num(-4), 9), entry(num(0), 2), entry(num(4), 60), entry(num(4), 61), entry(text(""), 3), entry(text("zzzz"), 2), entry(num(1000), 1), impl.Entry{})
	for set := range 1 << len(pool) {
		var x []impl.Entry
		for i, e := range pool {
			if set>>i&1 > 0 {
				x = append(x, e)
			}
		}
		checkEntries(t, x, some)
	}
}

// Promise 11: each list of at most four, in whatever order, the same twice and wrong ones among them.
func TestPromise11EachOrder(t *testing.T) {
	t.Parallel()
	pool := entries(entry(none, 2), entry(num(-3), 1), entry(num(4), 2), entry(num(4), 3), entry(text("a"), 2), entry(num(4), 61), entry(impl.Val{N: 1}, 1))
	right := 0
	var grow func(x []impl.Entry)
	grow = func(x []impl.Entry) {
		checkEntries(t, x, pool)
		if impl.IndexOk(x) {
			right++
		}
		if len(x) == 4 {
			return
		}
		for _, e := range pool {
			grow(append(slices.Clone(x), e))
		}
	}
	grow(nil)
	// Of the five that are ok, each few are in order once, but for all five.
	if right != 31 {
		t.Errorf("%d lists were ok", right)
	}
}

// Promise 11, with values at all edges, from as many entries as there may be down to none.
func TestPromise11Edges(t *testing.T) {
	t.Parallel()
	some := append(register(), entry(none, 1), entry(none, 60), entry(num(-998), 2), entry(num(998), 60), entry(text("0"), 1), entry(text("zzzz"), 60), entry(num(3), 0))
	for _, v := range wrongVals() {
		some = append(some, entry(v, 2))
	}
	x := register()
	for len(x) > 0 {
		checkEntries(t, x, some)
		at := ids(0, len(x)/2, len(x)-1)[len(x)%3]
		x = slices.Delete(x, at, at+1)
	}
	checkEntries(t, x, some)
}

// index is what IndexOf must tell.
func (b book) index(name string) []impl.Entry {
	var list []impl.Entry
	if b.colAt(name) < 0 {
		return nil
	}
	for _, id := range b.ids {
		list = append(list, entry(b.value(id, name), id))
	}
	return inOrder(list)
}

// checkIndex holds the index of each column against what the table finds: promise 11. It tells how many entries there were.
func checkIndex(t *testing.T, x impl.Table) int {
	t.Helper()
	all := 0
	rows := impl.AskIds(x, nil)
	for _, c := range impl.TableShape(x) {
		index := impl.IndexOf(x, c.Name)
		if !impl.IndexOk(index) || !slices.Equal(entryIds(index), impl.AskOrder(x, rows, c.Name, false)) {
			t.Fatalf("IndexOf of %s of %+v is %v", c.Name, x, index)
		}
		some := vals(none, num(4), num(-5), text("4"), text(""))
		for _, e := range index {
			some = append(some, e.Val)
		}
		for _, v := range some {
			found := impl.IndexFind(index, v)
			if want := impl.TableFind(x, c.Name, v); !slices.Equal(found, want) {
				t.Fatalf("IndexFind of %s and %+v of %+v is %v, not %v", c.Name, v, x, found, want)
			}
			if c.Once && v != none && len(found) > 1 {
				t.Fatalf("%+v is there %d times in %s of %+v", v, len(found), c.Name, x)
			}
			checkSpans(t, x, c, index, v)
		}
		if c.Once && !impl.IndexOnce(index) {
			t.Fatalf("IndexOnce of %s of %+v is false", c.Name, x)
		}
		all += len(index)
	}
	return all
}

// checkSpans holds a span of one value, one up to it and one from it on against what is asked of the table by conditions.
func checkSpans(t *testing.T, x impl.Table, c impl.Col, index []impl.Entry, v impl.Val) {
	t.Helper()
	if v.Kind != c.Kind {
		return
	}
	same := conds(cond(c.Name, impl.CondSame, v))
	less := append(impl.AskIds(x, conds(cond(c.Name, impl.CondLess, v))), impl.AskIds(x, same)...)
	more := append(impl.AskIds(x, same), impl.AskIds(x, conds(cond(c.Name, impl.CondMore, v)))...)
	kindLeast := map[int]impl.Val{impl.KindNum: num(-999), impl.KindText: text("")}[c.Kind]
	for _, span := range []struct {
		low, high impl.Val
		want      []int
	}{
		{v, v, impl.AskIds(x, same)},
		{kindLeast, v, less},
		{v, text("zzzz"), more},
	} {
		want := impl.AskOrder(x, span.want, c.Name, false)
		if got := impl.IndexSpan(index, span.low, span.high); !slices.Equal(got, want) {
			t.Fatalf("IndexSpan from %+v to %+v of %s of %+v is %v, not %v", span.low, span.high, c.Name, x, got, want)
		}
	}
}

// Promise 11, its first half: an index finds what the table finds, whenever its rows were written.
func TestPromise11FindsWhatTheTableFinds(t *testing.T) {
	tables := rightTables()
	tables["inventory"] = inventory()
	all := 0
	for what, c := range aheadOf() {
		tables[what] = c.old
		for _, name := range []string{"n", "s", "d", "zz"} {
			got, want := impl.IndexOf(c.old, name), impl.IndexOf(c.anew, name)
			if !slices.Equal(got, want) {
				t.Errorf("%s: IndexOf of %s is %v, and anew %v", what, name, got, want)
			}
			all += len(got)
		}
	}
	for _, x := range tables {
		all += checkIndex(t, x)
		for _, name := range []string{"a", "bb", "n", "s", "d", "zz"} {
			if got, want := impl.IndexOf(x, name), impl.IndexOf(impl.TableNow(x), name); !slices.Equal(got, want) {
				t.Errorf("IndexOf of %s of %+v is %v, and anew %v", name, x, got, want)
			}
		}
	}
	if all == 0 {
		t.Error("no index had an entry")
	}
}

// keeper keeps the entries of each column of a table, one by one.
type keeper map[string][]impl.Entry

func newKeeper(x impl.Table) keeper {
	k := keeper{}
	for _, c := range impl.TableShape(x) {
		k[c.Name] = impl.IndexOf(x, c.Name)
	}
	return k
}

// turn takes the entry of a row of a column out, or puts it in.
func (k keeper) turn(t *testing.T, name string, e impl.Entry, do func(x []impl.Entry, e impl.Entry) ([]impl.Entry, bool)) {
	t.Helper()
	next, ok := do(k[name], e)
	if !ok {
		t.Fatalf("%v of %s can not be done to %v", e, name, k[name])
	}
	k[name] = next
}

// follow does to the entries what was done to the rows between two books, if the columns are the same; it tells how many entries were turned.
func (k keeper) follow(t *testing.T, was book, now book) int {
	t.Helper()
	turned := 0
	for at, c := range now.cols {
		for i, id := range was.ids {
			if j := slices.Index(now.ids, id); j < 0 || now.rows[j][at] != was.rows[i][at] {
				k.turn(t, c.Name, entry(was.rows[i][at], id), impl.IndexOff)
				turned++
			}
		}
		for j, id := range now.ids {
			if i := slices.Index(was.ids, id); i < 0 || now.rows[j][at] != was.rows[i][at] {
				k.turn(t, c.Name, entry(now.rows[j][at], id), impl.IndexPut)
				turned++
			}
		}
	}
	return turned
}

// check holds the entries that were kept, and those of the table, against the book.
func (k keeper) check(t *testing.T, x impl.Table, b book) {
	t.Helper()
	for _, name := range append(colNames(b.cols), "zz") {
		want := b.index(name)
		if got := impl.IndexOf(x, name); !slices.Equal(got, want) {
			t.Fatalf("IndexOf of %s of %+v is %v, not %v", name, x, got, want)
		}
		if !slices.Equal(k[name], want) {
			t.Fatalf("of %s of %+v %v was kept, not %v", name, x, k[name], want)
		}
	}
}

// rowDeeds put, set and take off rows of the walkers' tables, with few values, so that several rows come to have one.
func rowDeeds() []deed {
	var list []deed
	for n := range 6 {
		list = append(list, putDeed(is("a", num(n%2-1))), putDeed(is("bb", text("x"))), putDeed(is("bb", none)), putDeed(is("ccc", num(n))), putDeed(is("bb", num(n%2))))
		list = append(list, offDeed(n), setDeed(n, is("bb", text(""))), setDeed(n, is("ccc", none)))
	}
	return list
}

// pickDeed is a deed by a number: most often to a row that is there, else to any, and now and then to the columns.
func pickDeed(b book, pick uint32) deed {
	rows, changes := rowDeeds(), someChanges()
	at := int(pick >> 12 & 0xffff)
	switch sort := pick >> 28; {
	case sort == 15:
		return changeDeed(changes[at%len(changes)])
	case sort < 8 && len(b.ids) > 0:
		id := b.ids[at/64%len(b.ids)]
		v := num(at/8%5 - 1)
		return []deed{offDeed(id), setDeed(id, is("a", v)), setDeed(id, is("bb", none)), setDeed(id, is("bb", text("y"))), setDeed(id, is("ccc", v))}[at%5]
	}
	return rows[at%len(rows)]
}

// Promise 11, its second half: long walks; which deed comes next is worked out from the one ahead, so that each run is the same.
func TestPromise11KeptEntryByEntry(t *testing.T) {
	t.Parallel()
	seen := map[string]int{}
	for name, w := range walkers() {
		for start := range 8 {
			x, b := w.x, w.b
			k := newKeeper(x)
			k.check(t, x, b)
			pick := uint32(start + 500)
			for range 150 {
				pick = pick*1664525 + 1013904223
				y, next := pickDeed(b, pick).step(t, x, b)
				if next.changes > b.changes {
					// The columns are other ones: from here on the entries of these are kept.
					k = newKeeper(y)
					seen["changes"]++
				} else if turned := k.follow(t, b, next); turned > 0 {
					seen["turned in "+name]++
				}
				x, b = y, next
				k.check(t, x, b)
				seen[fmt.Sprint("entries ", len(b.ids))]++
				for _, c := range b.cols {
					if !c.Once && !impl.IndexOnce(k[c.Name]) {
						seen["one value"]++
					}
				}
			}
			checkIndex(t, x)
		}
	}
	for _, what := range []string{"changes", "turned in no rows", "turned in two", "turned in late", "turned in need", "entries 0", "entries 1", "entries 4", "entries 8", "one value"} {
		if seen[what] == 0 {
			t.Errorf("no walk came to %s", what)
		}
	}
}

// Promise 11: behind each thing that is done to a table, and each one behind that.
func TestPromise11ShortWalks(t *testing.T) {
	t.Parallel()
	deeds := someDeeds()
	all := 0
	for _, w := range walkers() {
		for _, one := range deeds {
			x, b := one.step(t, w.x, w.b)
			k := newKeeper(x)
			k.check(t, x, b)
			all += checkIndex(t, x)
			for _, two := range deeds {
				y, next := two.step(t, x, b)
				if next.changes > b.changes {
					newKeeper(y).check(t, y, next)
					continue
				}
				kept := newKeeper(x)
				kept.follow(t, b, next)
				kept.check(t, y, next)
			}
		}
	}
	if all == 0 {
		t.Error("no index had an entry")
	}
}
