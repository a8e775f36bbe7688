package tests

import (
	"fmt"
	"slices"
	"testing"

	"loop.example/custumal/impl"
)

// The model: chapter 4 told anew from the document's words, by what chapter 3 has and by going through all rows and all links, with nothing kept.

func tabAt(b impl.Base, name string) int {
	return slices.IndexFunc(b.Tabs, func(x impl.Tab) bool { return x.Name == name })
}

// naming is the Id that a row's value in the column of a link tells, and whether it tells any.
func naming(b impl.Base, l impl.Link, id int) (int, bool) {
	from := b.Tabs[tabAt(b, l.From)].Table
	row, _ := impl.TableRow(from, id)
	v := row[impl.ShapeAt(impl.TableShape(from), l.Col)]
	return v.N, v != none
}

// eachName goes through all that is named by a link.
func eachName(b impl.Base, l impl.Link, f func(from impl.Ref, to impl.Ref)) {
	for _, r := range b.Tabs[tabAt(b, l.From)].Table.Rows {
		if n, is := naming(b, l, r.Id); is {
			f(impl.Ref{Name: l.From, Id: r.Id}, impl.Ref{Name: l.To, Id: n})
		}
	}
}

func modelHas(b impl.Base, r impl.Ref) bool {
	at := tabAt(b, r.Name)
	return at >= 0 && slices.ContainsFunc(b.Tabs[at].Table.Rows, func(x impl.Row) bool { return x.Id == r.Id })
}

func modelFits(b impl.Base, l impl.Link) bool {
	from := tabAt(b, l.From)
	if from < 0 || tabAt(b, l.To) < 0 {
		return false
	}
	for _, c := range impl.TableShape(b.Tabs[from].Table) {
		if c.Name == l.Col {
			return c.Kind == impl.KindNum && (l.How == 1 || l.How == 2 || l.How == 3 && !c.Need)
		}
	}
	return false
}

func modelHolds(b impl.Base, l impl.Link) bool {
	holds := true
	eachName(b, l, func(_ impl.Ref, to impl.Ref) { holds = holds && modelHas(b, to) })
	return holds
}

func modelOk(b impl.Base) bool {
	if len(b.Tabs) > 3 || len(b.Links) > 4 {
		return false
	}
	for i, x := range b.Tabs {
		if !nameText.MatchString(x.Name) || tabAt(b, x.Name) != i || !impl.TableOk(x.Table) {
			return false
		}
	}
	for i, l := range b.Links {
		for _, other := range b.Links[:i] {
			if other.From == l.From && other.Col == l.Col {
				return false
			}
		}
		if !modelFits(b, l) || !modelHolds(b, l) {
			return false
		}
	}
	return true
}

func modelTable(b impl.Base, name string, s []impl.Col) (impl.Base, int) {
	if !nameText.MatchString(name) || tabAt(b, name) >= 0 || !impl.ShapeOk(s) {
		return b, impl.TabForm
	}
	if len(b.Tabs) == 3 {
		return b, impl.TabFull
	}
	next := copyOfBase(b)
	next.Tabs = append(next.Tabs, impl.Tab{Name: name, Table: impl.TableNew(s)})
	return next, impl.TabFine
}

func modelLink(b impl.Base, l impl.Link) (impl.Base, int) {
	if !modelFits(b, l) || slices.ContainsFunc(b.Links, func(x impl.Link) bool { return x.From == l.From && x.Col == l.Col }) {
		return b, impl.TabForm
	}
	if !modelHolds(b, l) {
		return b, impl.TabLink
	}
	if len(b.Links) == 4 {
		return b, impl.TabFull
	}
	next := copyOfBase(b)
	next.Links = append(next.Links, l)
	return next, impl.TabFine
}

// modelWrite is what BasePut and BaseSet have in common.
func modelWrite(b impl.Base, name string, do func(x impl.Table) (impl.Table, int)) (impl.Base, int) {
	at := tabAt(b, name)
	if at < 0 {
		return b, impl.TabNone
	}
	next := copyOfBase(b)
	x, code := do(next.Tabs[at].Table)
	if code != impl.TabFine {
		return b, code
	}
	next.Tabs[at].Table = x
	for _, l := range next.Links {
		if !modelHolds(next, l) {
			return b, impl.TabLink
		}
	}
	return next, impl.TabFine
}

// modelDoomed takes rows in until none is left outside that names one inside by HowGone.
func modelDoomed(b impl.Base, first impl.Ref) []impl.Ref {
	if !modelHas(b, first) {
		return nil
	}
	inside := map[impl.Ref]bool{first: true}
	for grown := true; grown; {
		grown = false
		for _, l := range b.Links {
			eachName(b, l, func(from impl.Ref, to impl.Ref) {
				if l.How == 2 && inside[to] && !inside[from] {
					inside[from], grown = true, true
				}
			})
		}
	}
	return slices.DeleteFunc(allRefs(b), func(r impl.Ref) bool { return !inside[r] })
}

func allRefs(b impl.Base) []impl.Ref {
	var list []impl.Ref
	for _, x := range b.Tabs {
		for _, r := range x.Table.Rows {
			list = append(list, impl.Ref{Name: x.Name, Id: r.Id})
		}
	}
	return list
}

func modelOff(b impl.Base, first impl.Ref) (impl.Base, int) {
	if !modelHas(b, first) {
		return b, impl.TabNone
	}
	gone := modelDoomed(b, first)
	held := false
	next := copyOfBase(b)
	for _, l := range b.Links {
		eachName(b, l, func(from impl.Ref, to impl.Ref) {
			if !slices.Contains(gone, to) || slices.Contains(gone, from) {
				return
			}
			held = held || l.How == 1
			if l.How == 3 {
				x := &next.Tabs[tabAt(b, from.Name)].Table
				*x, _ = impl.TableSet(*x, from.Id, sets(is(l.Col, none)))
			}
		})
	}
	if held {
		return b, impl.TabHeld
	}
	for _, r := range gone {
		x := &next.Tabs[tabAt(b, r.Name)].Table
		*x, _ = impl.TableOff(*x, r.Id)
	}
	return next, impl.TabFine
}

func modelChange(b impl.Base, name string, c impl.Change) (impl.Base, int) {
	at := tabAt(b, name)
	if at < 0 {
		return b, impl.TabNone
	}
	x, code := impl.TableChange(b.Tabs[at].Table, c)
	if code == impl.TabForm {
		return b, code
	}
	next := copyOfBase(b)
	for i, l := range next.Links {
		if l.From == name && l.Col == c.Name {
			if c.Kind == 2 || c.Kind == 4 {
				return b, impl.TabUsed
			}
			next.Links[i].Col = c.New
		}
	}
	if code != impl.TabFine {
		return b, code
	}
	next.Tabs[at].Table = x
	return next, impl.TabFine
}

// move is one thing that is done, to a base and to one of the model.
type move struct {
	name  string
	base  func(b impl.Base) (impl.Base, int)
	model func(b impl.Base) (impl.Base, int)
}

func tableMove(name string, s ...impl.Col) move {
	return move{
		fmt.Sprintf("table %s %+v", name, s),
		func(b impl.Base) (impl.Base, int) { return impl.BaseTable(b, name, s) },
		func(b impl.Base) (impl.Base, int) { return modelTable(b, name, s) },
	}
}

func linkMove(from string, col string, to string, how int) move {
	l := impl.Link{From: from, Col: col, To: to, How: how}
	return move{
		fmt.Sprintf("link %+v", l),
		func(b impl.Base) (impl.Base, int) { return impl.BaseLink(b, l) },
		func(b impl.Base) (impl.Base, int) { return modelLink(b, l) },
	}
}

func putMove(name string, told ...impl.Set) move {
	return move{
		fmt.Sprintf("put %s %+v", name, told),
		func(b impl.Base) (impl.Base, int) { return impl.BasePut(b, name, told) },
		func(b impl.Base) (impl.Base, int) {
			return modelWrite(b, name, func(x impl.Table) (impl.Table, int) { return impl.TablePut(x, told) })
		},
	}
}

func setMove(name string, id int, told ...impl.Set) move {
	return move{
		fmt.Sprintf("set %s %d %+v", name, id, told),
		func(b impl.Base) (impl.Base, int) { return impl.BaseSet(b, name, id, told) },
		func(b impl.Base) (impl.Base, int) {
			return modelWrite(b, name, func(x impl.Table) (impl.Table, int) { return impl.TableSet(x, id, told) })
		},
	}
}

func offMove(name string, id int) move {
	return move{
		fmt.Sprintf("off %s %d", name, id),
		func(b impl.Base) (impl.Base, int) { return impl.BaseOff(b, name, id) },
		func(b impl.Base) (impl.Base, int) { return modelOff(b, impl.Ref{Name: name, Id: id}) },
	}
}

func changeMove(name string, c impl.Change) move {
	return move{
		fmt.Sprintf("change %s %+v", name, c),
		func(b impl.Base) (impl.Base, int) { return impl.BaseChange(b, name, c) },
		func(b impl.Base) (impl.Base, int) { return modelChange(b, name, c) },
	}
}

// step does one thing to a base, and holds what comes against the model: promises 5 and 6.
func (m move) step(t *testing.T, b impl.Base) (impl.Base, int) {
	t.Helper()
	was := baseText(b)
	got, code := m.base(b)
	if baseText(b) != was {
		t.Fatalf("%s: the argument was %s, and is %+v", m.name, was, b)
	}
	want, wantCode := m.model(b)
	if code != wantCode || baseText(got) != baseText(want) {
		t.Fatalf("%s: the code is %d, not %d; of %s came %+v, not %+v", m.name, code, wantCode, was, got, want)
	}
	if code != impl.TabFine && baseText(got) != was {
		t.Fatalf("%s: the code is %d, and of %s came %+v", m.name, code, was, got)
	}
	if !modelOk(got) || !impl.BaseOk(got) || !impl.BaseSame(got, want) {
		t.Fatalf("%s: of %s came %+v, which is not ok", m.name, was, got)
	}
	return got, code
}

// checkDoomed asks of each row, and of some that are not there, which go with it.
func checkDoomed(t *testing.T, b impl.Base) {
	t.Helper()
	for _, name := range []string{"t", "u", "v", "w", ""} {
		for id := -1; id < 12; id++ {
			if got, want := impl.BaseDoomed(b, name, id), modelDoomed(b, impl.Ref{Name: name, Id: id}); !slices.Equal(got, want) {
				t.Fatalf("BaseDoomed of %s %d is %v, not %v, of %+v", name, id, got, want, b)
			}
		}
	}
}

// someMoves are enough that most of what a base can come to is come to, and each code too.
func someMoves() []move {
	list := []move{
		tableMove("t", numCol("k"), numCol("m")), tableMove("u", numCol("k"), numCol("m")), tableMove("v", onceCol("k"), textCol("s")),
		tableMove("w", numCol("k")), tableMove("T", numCol("k")), tableMove("v"), tableMove("v", numCol("k"), numCol("k")),
		tableMove("v", impl.Col{Name: "k", Kind: impl.KindNum, Need: true, Def: num(1)}, textCol("s")),
	}
	for _, from := range []string{"t", "u", "v"} {
		for _, to := range []string{"t", "u", "v"} {
			list = append(list, linkMove(from, "k", to, impl.HowGone), linkMove(from, "m", to, impl.HowNone), linkMove(from, "k", to, impl.HowStop), linkMove(from, "k", to, impl.HowNone))
		}
		list = append(list, linkMove(from, "n", "t", impl.HowStop), linkMove(from, "s", "t", impl.HowGone), linkMove(from, "k", "t", 0), linkMove(from, "k", "w", impl.HowGone))
		list = append(list, putMove(from), putMove(from, is("k", num(1))), putMove(from, is("k", num(2)), is("m", num(1))), putMove(from, is("m", num(3))), putMove(from, is("k", num(60))), putMove(from, is("s", text("2"))), putMove(from, is("k", text("1"))))
		for id := 1; id <= 3; id++ {
			list = append(list, setMove(from, id, is("k", num(id))), setMove(from, id, is("k", num(3-id))), setMove(from, id, is("m", num(1))), setMove(from, id, is("k", none)), offMove(from, id))
		}
		list = append(list, changeMove(from, add(numCol("m"))), changeMove(from, drop("k")), changeMove(from, drop("m")), changeMove(from, rename("k", "n")), changeMove(from, rename("n", "k")), changeMove(from, rename("m", "k")), changeMove(from, retype("s", impl.KindNum)), changeMove(from, retype("k", impl.KindText)), changeMove(from, retype("m", impl.KindText)))
	}
	return append(list, putMove("w"), setMove("w", 1), offMove("w", 1), changeMove("w", drop("k")))
}

// Promises 5 and 6: each thing that is done behind each one that can be, to bases of all sorts.
func TestPromises5And6ShortWalks(t *testing.T) {
	moves := someMoves()
	for name, b := range rightBases() {
		t.Run(name, func(t *testing.T) {
			t.Parallel()
			for _, one := range moves {
				next, code := one.step(t, b)
				if code != impl.TabFine {
					// What comes behind it comes behind the base itself, too.
					continue
				}
				checkDoomed(t, next)
				for _, two := range moves {
					two.step(t, next)
				}
			}
		})
	}
}

// Promises 5 and 6: long walks; which thing comes next is worked out from the one ahead, so that each run is the same.
func TestPromises5And6LongWalks(t *testing.T) {
	moves := someMoves()
	for id := 1; id < 14; id++ {
		for _, name := range []string{"t", "u", "v"} {
			moves = append(moves, putMove(name, is("k", num(id))), putMove(name, is("m", num(id)), is("k", num(id/2))), setMove(name, id, is("m", num(id+1))), setMove(name, id, is("k", num(id-1))), offMove(name, id), offMove(name, id+3))
		}
	}
	seen := map[string]int{}
	for _, b := range rightBases() {
		for start := range 12 {
			now := b
			pick := uint32(start)
			for range 160 {
				pick = pick*1664525 + 1013904223
				next, code := moves[int(pick>>8)%len(moves)].step(t, now)
				seen[fmt.Sprint("code ", code)]++
				seen[fmt.Sprint("tables ", len(next.Tabs))]++
				seen[fmt.Sprint("links ", len(next.Links))]++
				seen[fmt.Sprint("rows that go ", len(allRefs(now))-len(allRefs(next)))]++
				now = next
			}
			checkDoomed(t, now)
		}
	}
	for _, what := range []string{"tables 0", "tables 3", "links 0", "links 4", "rows that go 1", "rows that go 2", "rows that go 3", "rows that go 4"} {
		if seen[what] == 0 {
			t.Errorf("no walk came to %s", what)
		}
	}
	for code := range 9 {
		if seen[fmt.Sprint("code ", code)] == 0 {
			t.Errorf("no walk came to the code %d", code)
		}
	}
}
