package tests

import (
	"fmt"
	"slices"
	"testing"

	"loop.example/custumal/impl"
)

// The model: chapter 7 told anew from the document's words, of a book, whose rows are written anew at each change, and of a base by going through all rows and links.

// valAhead says whether a value comes ahead of another one.
func valAhead(a impl.Val, b impl.Val) bool {
	if a.Kind != b.Kind {
		return a.Kind < b.Kind
	}
	if a.N != b.N {
		return a.N < b.N
	}
	return a.Text < b.Text
}

func (b book) colAt(name string) int {
	return slices.IndexFunc(b.cols, func(c impl.Col) bool { return c.Name == name })
}

// askable says whether a condition can be asked, of values that are ok.
func (b book) askable(c impl.Cond) bool {
	at := b.colAt(c.Name)
	return at >= 0 && (c.How == 1 && c.Val == none || 1 <= c.How && c.How <= 3 && c.Val.Kind == b.cols[at].Kind)
}

func (b book) meets(row []impl.Val, c impl.Cond) bool {
	v := row[b.colAt(c.Name)]
	switch c.How {
	case 1:
		return v == c.Val
	case 2:
		return v != none && valAhead(v, c.Val)
	}
	return v != none && valAhead(c.Val, v)
}

func (b book) askIds(list []impl.Cond) []int {
	found := slices.Clone(b.ids)
	for _, c := range list {
		if !b.askable(c) {
			return nil
		}
		found = slices.DeleteFunc(found, func(id int) bool { return !b.meets(b.rows[slices.Index(b.ids, id)], c) })
	}
	if len(list) > 3 {
		return nil
	}
	return found
}

// value is what stands in a column of a row.
func (b book) value(id int, name string) impl.Val {
	return b.rows[slices.Index(b.ids, id)][b.colAt(name)]
}

// tells says whether these rows, and these columns of them, can be asked.
func (b book) tells(list []int, cols ...string) bool {
	for i, id := range list {
		if !slices.Contains(b.ids, id) || slices.Contains(list[:i], id) {
			return false
		}
	}
	for _, name := range cols {
		if b.colAt(name) < 0 {
			return false
		}
	}
	return len(cols) <= 5
}

// askOrder takes the one that comes ahead of all others, over and over.
func (b book) askOrder(list []int, name string, down bool) []int {
	if !b.tells(list, name) {
		return nil
	}
	ahead := func(one int, other int) bool {
		v, w := b.value(one, name), b.value(other, name)
		if v == w {
			return one < other
		}
		return valAhead(v, w) != down
	}
	var sorted []int
	for left := slices.Clone(list); len(left) > 0; {
		first := left[0]
		for _, id := range left {
			if ahead(id, first) {
				first = id
			}
		}
		sorted = append(sorted, first)
		left = slices.DeleteFunc(left, func(id int) bool { return id == first })
	}
	return sorted
}

func (b book) askCols(list []int, cols []string) [][]impl.Val {
	if !b.tells(list, cols...) {
		return nil
	}
	var rows [][]impl.Val
	for _, id := range list {
		var row []impl.Val
		for _, name := range cols {
			row = append(row, b.value(id, name))
		}
		rows = append(rows, row)
	}
	return rows
}

func (b book) askSum(list []int, name string) (int, int) {
	n, sum := 0, 0
	if !b.tells(list, name) {
		return 0, 0
	}
	for _, id := range list {
		if v := b.value(id, name); v.Kind == impl.KindNum {
			n, sum = n+1, sum+v.N
		}
	}
	return n, sum
}

// someConds are conditions of each column and of each How, with values that are there and some that are not.
func (b book) someConds() []impl.Cond {
	var list []impl.Cond
	for i, name := range append(colNames(b.cols), "zz") {
		some := vals(none, num(5), text("12"))
		for _, row := range b.rows {
			if i < len(row) && !slices.Contains(some, row[i]) {
				some = append(some, row[i])
			}
		}
		for how := range 5 {
			for _, v := range some {
				list = append(list, cond(name, how, v))
			}
		}
	}
	return list
}

func colNames(s []impl.Col) []string {
	var list []string
	for _, c := range s {
		list = append(list, c.Name)
	}
	return list
}

// someIds are the rows in several orders, some of them, and lists that can not be asked.
func (b book) someIds() [][]int {
	turned := slices.Clone(b.ids)
	slices.Reverse(turned)
	half := turned[:len(turned)/2]
	mixed := append(slices.Clone(b.ids[len(b.ids)/2:]), b.ids[:len(b.ids)/2]...)
	list := [][]int{nil, b.ids, turned, half, mixed, {b.next}, {0}}
	if len(b.ids) > 0 {
		list = append(list, append(slices.Clone(b.ids), b.ids[0]), ids(-b.ids[0]))
	}
	return list
}

// ask asks all of a table, and holds the answers against the book: promise 10. It tells how many answers had something in them.
func (b book) ask(t *testing.T, x impl.Table) int {
	t.Helper()
	full := 0
	list := b.someConds()
	check := func(some ...impl.Cond) {
		t.Helper()
		got, want := impl.AskIds(x, some), b.askIds(some)
		if !slices.Equal(got, want) {
			t.Fatalf("AskIds of %+v of %+v is %v, not %v", some, x, got, want)
		}
		full += min(len(got), 1)
	}
	check()
	for i, c := range list {
		check(c)
		check(c, list[(7*i+3)%len(list)])
		check(c, list[(5*i+1)%len(list)], list[(11*i+2)%len(list)])
		check(c, c, c, c)
	}
	cols := colNames(b.cols)
	for _, some := range b.someIds() {
		for _, name := range append(slices.Clone(cols), "zz") {
			b.askOne(t, x, some, name)
		}
		for _, told := range [][]string{nil, cols, slices.Repeat(cols[:1], 5), slices.Repeat(cols[:1], 6), {cols[len(cols)-1], cols[0]}, {cols[0], "zz"}} {
			if got, want := impl.AskCols(x, some, told), b.askCols(some, told); !slices.EqualFunc(got, want, slices.Equal) {
				t.Fatalf("AskCols of %v and %v of %+v is %v, not %v", some, told, x, got, want)
			}
		}
	}
	return full
}

// askOne asks what is asked of one column.
func (b book) askOne(t *testing.T, x impl.Table, some []int, name string) {
	t.Helper()
	for _, down := range []bool{false, true} {
		if got, want := impl.AskOrder(x, some, name, down), b.askOrder(some, name, down); !slices.Equal(got, want) {
			t.Fatalf("AskOrder of %v by %s, down %v, of %+v is %v, not %v", some, name, down, x, got, want)
		}
	}
	n, sum := impl.AskSum(x, some, name)
	wantN, wantSum := b.askSum(some, name)
	if n != wantN || sum != wantSum {
		t.Fatalf("AskSum of %v and %s of %+v is %d, %d, not %d, %d", some, name, x, n, sum, wantN, wantSum)
	}
}

// Promise 10: behind each thing that is done to a table, and each one behind that.
func TestPromise10ShortWalks(t *testing.T) {
	t.Parallel()
	deeds := someDeeds()
	full := 0
	for _, w := range walkers() {
		full += w.b.ask(t, w.x)
		for _, one := range deeds {
			x, b := one.step(t, w.x, w.b)
			full += b.ask(t, x)
			for _, two := range deeds {
				y, next := two.step(t, x, b)
				if tableText(y) != tableText(x) {
					full += next.ask(t, y)
				}
			}
		}
	}
	if full == 0 {
		t.Error("no answer had anything in it")
	}
}

// Promise 10: long walks, up to tables that are full; which deed comes next is worked out from the one ahead, so that each run is the same.
func TestPromise10LongWalks(t *testing.T) {
	t.Parallel()
	deeds := manyDeeds()
	seen := map[string]int{}
	for _, w := range walkers() {
		for start := range 6 {
			x, b := w.x, w.b
			pick := uint32(start + 100)
			for i := range 120 {
				pick = pick*1664525 + 1013904223
				x, b = deeds[int(pick>>8)%len(deeds)].step(t, x, b)
				if i%3 > 0 {
					continue
				}
				b.ask(t, x)
				seen[fmt.Sprint("rows ", len(x.Rows))]++
				seen[fmt.Sprint("changes ", len(x.Changes))]++
				for _, r := range x.Rows {
					seen[fmt.Sprint("behind ", len(x.Changes)-r.Ver)]++
				}
			}
		}
	}
	for _, what := range []string{"rows 0", "rows 8", "changes 0", "changes 8", "behind 0", "behind 1", "behind 4", "behind 8"} {
		if seen[what] == 0 {
			t.Errorf("no walk came to %s", what)
		}
	}
}

// modelBack is all rows but those that name that row by no link.
func modelBack(b impl.Base, to impl.Ref) []impl.Ref {
	return slices.DeleteFunc(allRefs(b), func(r impl.Ref) bool {
		for _, l := range b.Links {
			if l.From != r.Name || l.To != to.Name {
				continue
			}
			if n, is := naming(b, l, r.Id); is && n == to.Id {
				return false
			}
		}
		return true
	})
}

// checkBack asks of each row, and of some that are not there, which ones name it; it tells of how many rows there are most.
func checkBack(t *testing.T, b impl.Base) int {
	t.Helper()
	most := 0
	for _, name := range []string{"t", "u", "v", "w", ""} {
		for id := -1; id < 12; id++ {
			got, want := impl.AskBack(b, name, id), modelBack(b, ref(name, id))
			if !slices.Equal(got, want) {
				t.Fatalf("AskBack of %s %d is %v, not %v, of %+v", name, id, got, want, b)
			}
			most = max(most, len(got))
		}
	}
	return most
}

// Promise 10, of rows that name one another: behind each thing that is done to bases of all sorts, and at times in long walks.
func TestPromise10BackWalks(t *testing.T) {
	t.Parallel()
	moves := someMoves()
	for name := range 8 {
		for _, table := range []string{"t", "u", "v"} {
			moves = append(moves, putMove(table, is("k", num(name)), is("m", num(name))), putMove(table, is("k", num(1))), setMove(table, name, is("m", num(2))))
		}
	}
	most := 0
	for _, b := range rightBases() {
		most = max(most, checkBack(t, b))
		for _, m := range moves {
			next, _ := m.base(b)
			most = max(most, checkBack(t, next))
		}
		for start := range 4 {
			now := b
			pick := uint32(start + 50)
			for i := range 80 {
				pick = pick*1664525 + 1013904223
				now, _ = moves[int(pick>>8)%len(moves)].base(now)
				if i%5 == 0 {
					most = max(most, checkBack(t, now))
				}
			}
		}
	}
	if most < 4 {
		t.Errorf("no row was named by more than %d", most)
	}
}
