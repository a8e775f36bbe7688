package tests

import (
	"fmt"
	"slices"
	"testing"

	"loop.example/custumal/impl"
)

// guarded is a list that is cut out of a longer one, with marks ahead of it and in the spare room behind it.
type guarded[T comparable] struct {
	list  []T
	whole []T
	as    []T
}

func guard[T comparable](list []T, mark T) guarded[T] {
	whole := append([]T{mark}, list...)
	whole = append(whole, mark, mark, mark)
	return guarded[T]{list: whole[1 : 1+len(list)], whole: whole, as: slices.Clone(whole)}
}

// check tells if anything was written into the list, ahead of it or behind its end.
func (g guarded[T]) check(t *testing.T, what string) {
	t.Helper()
	if !slices.Equal(g.whole, g.as) {
		t.Errorf("%s: an argument was %#v, and is %#v", what, g.as, g.whole)
	}
}

// scribble writes all over a list, its spare room included.
func scribble[T any](list []T, mark T) {
	list = list[:cap(list)]
	for i := range list {
		list[i] = mark
	}
}

// guardedTable is a table of which each list is cut out of a longer one.
type guardedTable struct {
	table   impl.Table
	first   guarded[impl.Col]
	changes guarded[impl.Change]
	vals    []guarded[impl.Val]
	rows    []impl.Row
	as      string
}

func guardTable(x impl.Table) guardedTable {
	g := guardedTable{first: guard(x.First, textCol("m")), changes: guard(x.Changes, drop("m"))}
	mark := impl.Row{Id: 77, Ver: 7, Vals: []impl.Val{text("mark")}}
	g.rows = append(g.rows, mark)
	for _, r := range x.Rows {
		vals := guard(r.Vals, text("mark"))
		g.vals = append(g.vals, vals)
		g.rows = append(g.rows, impl.Row{Id: r.Id, Ver: r.Ver, Vals: vals.list})
	}
	g.rows = append(g.rows, mark, mark)
	g.as = fmt.Sprintf("%#v", g.rows)
	g.table = impl.Table{First: g.first.list, Changes: g.changes.list, Rows: g.rows[1 : 1+len(x.Rows)], Next: x.Next}
	return g
}

func (g guardedTable) check(t *testing.T, what string) {
	t.Helper()
	g.first.check(t, what)
	g.changes.check(t, what)
	for _, v := range g.vals {
		v.check(t, what)
	}
	if now := fmt.Sprintf("%#v", g.rows); now != g.as {
		t.Errorf("%s: the rows of an argument were %s, and are %s", what, g.as, now)
	}
}

// guardedBase is a base of which each list is cut out of a longer one.
type guardedBase struct {
	base   impl.Base
	tables []guardedTable
	links  guarded[impl.Link]
	tabs   []impl.Tab
	as     string
}

func guardBase(b impl.Base) guardedBase {
	g := guardedBase{links: guard(b.Links, impl.Link{From: "m", How: 77})}
	mark := impl.Tab{Name: "mark", Table: impl.Table{Next: 77}}
	g.tabs = append(g.tabs, mark)
	for _, x := range b.Tabs {
		table := guardTable(x.Table)
		g.tables = append(g.tables, table)
		g.tabs = append(g.tabs, impl.Tab{Name: x.Name, Table: table.table})
	}
	g.tabs = append(g.tabs, mark, mark)
	g.as = fmt.Sprintf("%#v", g.tabs)
	g.base = impl.Base{Tabs: g.tabs[1 : 1+len(b.Tabs)], Links: g.links.list}
	return g
}

func (g guardedBase) check(t *testing.T, what string) {
	t.Helper()
	g.links.check(t, what)
	for _, x := range g.tables {
		x.check(t, what)
	}
	if now := fmt.Sprintf("%#v", g.tabs); now != g.as {
		t.Errorf("%s: the tables of an argument were %s, and are %s", what, g.as, now)
	}
}

// guardedActs is acts of which each list is cut out of a longer one, and so are they.
type guardedActs struct {
	acts []impl.Act
	sets []guarded[impl.Set]
	cols []guarded[impl.Col]
	all  []impl.Act
	as   string
}

func guardActs(list ...impl.Act) guardedActs {
	var g guardedActs
	mark := impl.Act{Kind: 77, Name: "mark", Sets: sets(is("mark", none)), Cols: colsOf(1)}
	g.all = append(g.all, mark)
	for _, a := range list {
		told, cols := guard(a.Sets, is("m", text("mark"))), guard(a.Cols, textCol("m"))
		g.sets, g.cols = append(g.sets, told), append(g.cols, cols)
		a.Sets, a.Cols = told.list, cols.list
		g.all = append(g.all, a)
	}
	g.all = append(g.all, mark, mark)
	g.as = fmt.Sprintf("%#v", g.all)
	g.acts = g.all[1 : 1+len(list)]
	return g
}

func (g guardedActs) check(t *testing.T, what string) {
	t.Helper()
	for i := range g.acts {
		g.sets[i].check(t, what)
		g.cols[i].check(t, what)
	}
	if now := fmt.Sprintf("%#v", g.all); now != g.as {
		t.Errorf("%s: the acts of an argument were %s, and are %s", what, g.as, now)
	}
}

// guardedLog is a log of which each list is cut out of a longer one, and so are its times.
type guardedLog struct {
	log   [][]impl.Act
	times []guardedActs
	all   [][]impl.Act
	as    string
}

func guardLog(log [][]impl.Act) guardedLog {
	var g guardedLog
	mark := []impl.Act{{Kind: 77, Name: "mark"}}
	g.all = append(g.all, mark)
	for _, list := range log {
		acts := guardActs(list...)
		g.times = append(g.times, acts)
		g.all = append(g.all, acts.acts)
	}
	g.all = append(g.all, mark, mark)
	g.as = fmt.Sprintf("%#v", g.all)
	g.log = g.all[1 : 1+len(log)]
	return g
}

func (g guardedLog) check(t *testing.T, what string) {
	t.Helper()
	for _, acts := range g.times {
		acts.check(t, what)
	}
	if now := fmt.Sprintf("%#v", g.all); now != g.as {
		t.Errorf("%s: the times of an argument were %s, and are %s", what, g.as, now)
	}
}

// part is one list of an answer, its spare room included.
type part struct {
	wipe func()
	tell func() string
}

func partOf[T any](list []T, mark T) part {
	whole := list[:cap(list)]
	return part{
		wipe: func() { scribble(whole, mark) },
		tell: func() string { return fmt.Sprintf("%#v", whole) },
	}
}

// tableParts is all lists of a table. The values of its rows are parts of their own, and not told with the rows.
func tableParts(x impl.Table) []part {
	rows := x.Rows[:cap(x.Rows)]
	list := []part{partOf(x.First, textCol("w")), partOf(x.Changes, drop("w")), {
		wipe: func() { scribble(rows, impl.Row{Id: -7, Ver: -7}) },
		tell: func() string {
			told := ""
			for _, r := range rows {
				told += fmt.Sprint(r.Id, r.Ver, len(r.Vals), ";")
			}
			return told
		},
	}}
	for _, r := range rows {
		list = append(list, partOf(r.Vals, text("wipe")))
	}
	return list
}

// baseParts is all lists of a base. The lists of its tables are parts of their own, and not told with the tables.
func baseParts(b impl.Base) []part {
	tabs := b.Tabs[:cap(b.Tabs)]
	list := []part{partOf(b.Links, impl.Link{From: "wipe"}), {
		wipe: func() { scribble(tabs, impl.Tab{Name: "wipe"}) },
		tell: func() string {
			told := ""
			for _, x := range tabs {
				told += fmt.Sprint(x.Name, x.Table.Next, len(x.Table.First), len(x.Table.Changes), len(x.Table.Rows), ";")
			}
			return told
		},
	}}
	for _, x := range tabs {
		list = append(list, tableParts(x.Table)...)
	}
	return list
}

// actParts is all lists of what is done.
func actParts(a impl.Act) []part {
	return []part{partOf(a.Sets, is("w", text("wipe"))), partOf(a.Cols, textCol("w"))}
}

// logParts is all lists of a log. The acts of its times, and the lists of these, are parts of their own.
func logParts(log [][]impl.Act) []part {
	times := log[:cap(log)]
	list := []part{{
		wipe: func() { scribble(times, nil) },
		tell: func() string {
			told := ""
			for _, acts := range times {
				told += fmt.Sprint(len(acts), ";")
			}
			return told
		},
	}}
	for _, acts := range times {
		acts = acts[:cap(acts)]
		list = append(list, part{
			wipe: func() { scribble(acts, impl.Act{Kind: -7, Name: "wipe"}) },
			tell: func() string {
				told := ""
				for _, a := range acts {
					told += fmt.Sprint(a.Kind, a.Name, a.Id, len(a.Sets), len(a.Cols), a.Change, a.Link, ";")
				}
				return told
			},
		})
		for _, a := range acts {
			list = append(list, actParts(a)...)
		}
	}
	return list
}

// checkApart writes all over one list of an answer after the other, and tells if that shows in another one.
func checkApart(t *testing.T, what string, parts []part) {
	t.Helper()
	for i, p := range parts {
		var was []string
		for _, other := range parts {
			was = append(was, other.tell())
		}
		p.wipe()
		for j, other := range parts {
			if now := other.tell(); j != i && now != was[j] {
				t.Errorf("%s: the lists %d and %d of an answer share memory: %s is %s", what, i, j, was[j], now)
			}
		}
	}
}
