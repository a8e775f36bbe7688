package tests

import (
	"fmt"
	"math"
	"slices"
	"testing"

	"loop.example/custumal/impl"
)

func cond(name string, how int, v impl.Val) impl.Cond {
	return impl.Cond{Name: name, How: how, Val: v}
}

func conds(list ...impl.Cond) []impl.Cond { return list }

func ids(list ...int) []int { return list }

func names(list ...string) []string { return list }

func refs(list ...impl.Ref) []impl.Ref { return list }

// hows are the three, and some below and above them.
func hows() []int { return []int{math.MinInt, -3, -1, 0, 1, 2, 3, 4, 5, math.MaxInt} }

// inventory is a table with rows of one value, with nothing, with numbers below 0 and with texts, some of which are decimals.
func inventory() impl.Table {
	return impl.Table{
		First: []impl.Col{numCol("n"), textCol("s"), numCol("z")},
		Rows: []impl.Row{
			{Id: 2, Vals: vals(num(3), text("b"), num(1))},
			{Id: 3, Vals: vals(none, text("a"), none)},
			{Id: 5, Vals: vals(num(-7), none, num(1))},
			{Id: 8, Vals: vals(num(3), text(""), none)},
			{Id: 9, Vals: vals(num(0), text("b"), num(1))},
			{Id: 12, Vals: vals(none, none, none)},
			{Id: 19, Vals: vals(num(-7), text("-1"), num(2))},
		},
		Next: 21,
	}
}

func inventoryIds() []int { return ids(2, 3, 5, 8, 9, 12, 19) }

// wrongIds are lists that can not be asked of inventory: one is not there, or told twice.
func wrongIds() [][]int {
	return [][]int{
		{1}, {4}, {20}, {21}, {60}, {0}, {-1}, {-2}, {math.MinInt}, {math.MaxInt},
		{2, 2}, {2, 3, 2}, {19, 5, 12, 12}, {2, 1}, {1, 2}, {2, 3, 5, 8, 9, 12, 19, 20}, {2, 3, 5, 8, 9, 12, 19, 2}, {19, 12, 9, 8, 5, 3, 2, 0},
		slices.Repeat(ids(2), 1000), slices.Repeat(inventoryIds(), 50), {2 + 1<<32}, {-2, 2},
	}
}

// noColumns are names of no column of inventory.
func noColumns() []string {
	return []string{"", "a", "N", "nn", "n ", " n", "sn", "n:num", "zzzz", "\xff", "n\x00"}
}

// allWrong tells if what can not be asked of a table is answered.
func allWrong(t *testing.T, what string, x impl.Table, list []int, name string) {
	t.Helper()
	for _, down := range []bool{false, true} {
		if got := impl.AskOrder(x, list, name, down); len(got) != 0 {
			t.Errorf("%s: AskOrder of %v by %q is %v", what, list, name, got)
		}
	}
	for _, some := range [][]string{{name}, {name, name}} {
		if got := impl.AskCols(x, list, some); len(got) != 0 {
			t.Errorf("%s: AskCols of %v and %q is %v", what, list, some, got)
		}
	}
	if n, sum := impl.AskSum(x, list, name); n != 0 || sum != 0 {
		t.Errorf("%s: AskSum of %v and %q is %d, %d", what, list, name, n, sum)
	}
}

func TestAskBounds(t *testing.T) {
	if impl.CondSame != 1 || impl.CondLess != 2 || impl.CondMore != 3 || impl.CondMost != 3 {
		t.Error("a constant is another one than the document's")
	}
}

func TestCondOk(t *testing.T) {
	// Of two Kinds, and the marks of a column change nothing.
	s := append(three(), impl.Col{Name: "d", Kind: impl.KindText, Need: true, Once: true}, textCol("e"))
	kinds := map[string]int{"a": impl.KindNum, "bb": impl.KindText, "ccc": impl.KindNum, "d": impl.KindText, "e": impl.KindText}
	some := []impl.Val{none, num(0), num(7), num(-999), num(999), text(""), text("x"), text("7"), text("abcd")}
	for _, how := range hows() {
		for _, v := range some {
			for name, kind := range kinds {
				want := 1 <= how && how <= 3 && (v.Kind == kind || v == none && how == 1)
				if got := impl.CondOk(s, cond(name, how, v)); got != want {
					t.Errorf("CondOk of %s, %d and %+v is %v", name, how, v, got)
				}
			}
			for _, name := range []string{"", "b", "c", "cc", "A", "a ", "zz", "aaaa", "\xff"} {
				if impl.CondOk(s, cond(name, how, v)) {
					t.Errorf("CondOk of %q, %d and %+v is true", name, how, v)
				}
			}
		}
		for _, v := range wrongVals() {
			for name := range kinds {
				if impl.CondOk(s, cond(name, how, v)) {
					t.Errorf("CondOk of %s, %d and %+v is true", name, how, v)
				}
			}
		}
	}
	if impl.CondOk(s, impl.Cond{}) || impl.CondOk(nil, impl.Cond{}) {
		t.Error("CondOk of nothing is true")
	}
}

func TestCondColumns(t *testing.T) {
	for _, s := range wrongShapes() {
		for _, c := range append(slices.Clone(s), numCol("a"), numCol("x")) {
			for how := 1; how <= 3; how++ {
				for _, v := range []impl.Val{none, num(1), text("b")} {
					if impl.CondOk(s, cond(c.Name, how, v)) {
						t.Errorf("CondOk of %+v, %s, %d and %+v is true", s, c.Name, how, v)
					}
					for _, row := range [][]impl.Val{nil, slices.Repeat(vals(v), len(s)), slices.Repeat(vals(num(0)), len(s)), slices.Repeat(vals(num(9)), len(s))} {
						if impl.CondHas(s, cond(c.Name, how, v), row) {
							t.Errorf("CondHas of %+v, %s, %d, %+v and %+v is true", s, c.Name, how, v, row)
						}
					}
				}
			}
		}
	}
	five := colsOf(5)
	for i, c := range five {
		row := vals(num(0), num(1), num(2), num(3), num(4))
		if !impl.CondOk(five, cond(c.Name, impl.CondSame, num(i))) || !impl.CondHas(five, cond(c.Name, impl.CondSame, num(i)), row) {
			t.Errorf("the column %s of five is not asked", c.Name)
		}
		if impl.CondHas(five, cond(c.Name, impl.CondSame, num(i+1)), row) {
			t.Errorf("of five columns another one than %s is asked", c.Name)
		}
	}
}

func TestCondHas(t *testing.T) {
	s := []impl.Col{textCol("b"), numCol("a"), textCol("c")}
	for _, c := range []struct {
		as               impl.Val
		v                impl.Val
		same, less, more bool
	}{
		{num(5), num(5), true, false, false},
		{num(5), num(4), false, true, false},
		{num(5), num(6), false, false, true},
		{num(5), num(-5), false, true, false},
		{num(-5), num(5), false, false, true},
		{num(-5), num(-6), false, true, false},
		{num(-5), num(-4), false, false, true},
		{num(0), num(0), true, false, false},
		{num(0), num(-1), false, true, false},
		{num(9), num(10), false, false, true},
		{num(10), num(9), false, true, false},
		{num(999), num(-999), false, true, false},
		{num(-999), num(999), false, false, true},
		{num(999), num(999), true, false, false},
		{num(5), none, false, false, false},
		{num(0), none, false, false, false},
		{num(-999), none, false, false, false},
		{none, none, true, false, false},
		{none, num(0), false, false, false},
		{none, num(5), false, false, false},
		{text("m"), text("m"), true, false, false},
		{text("m"), text("l"), false, true, false},
		{text("m"), text("n"), false, false, true},
		{text("m"), text(""), false, true, false},
		{text(""), text(""), true, false, false},
		{text(""), text("-"), false, false, true},
		{text("m"), text("ma"), false, false, true},
		{text("ma"), text("m"), false, true, false},
		{text("ab"), text("b"), false, false, true},
		{text("10"), text("9"), false, false, true},
		{text("0"), text("-"), false, true, false},
		{text("a"), text("9"), false, true, false},
		{text("-5"), text("-6"), false, false, true},
		{text("m"), none, false, false, false},
		{text(""), none, false, false, false},
		{none, text(""), false, false, false},
	} {
		wants := map[int]bool{impl.CondSame: c.same, impl.CondLess: c.less, impl.CondMore: c.more}
		for _, how := range hows() {
			for at, name := range []string{"b", "a", "c"} {
				if kind := c.as.Kind + c.v.Kind; kind != 0 && s[at].Kind != c.as.Kind && s[at].Kind != c.v.Kind {
					continue
				}
				// In all other columns stands what would be told otherwise.
				for _, other := range []impl.Val{none, c.as, c.v, num(-999), num(999), text("zzzz")} {
					row := slices.Repeat(vals(other), 3)
					row[at] = c.v
					if got := impl.CondHas(s, cond(name, how, c.as), row); got != wants[how] {
						t.Errorf("CondHas of %s, %d, %+v and %+v is %v", name, how, c.as, row, got)
					}
				}
			}
		}
	}
}

func TestCondHasRefuses(t *testing.T) {
	s := []impl.Col{numCol("a"), textCol("b")}
	for _, row := range [][]impl.Val{vals(num(1), text("x")), vals(none, none), vals(num(-1), text(""))} {
		for _, how := range hows() {
			for _, c := range []impl.Cond{
				cond("zz", how, num(1)), cond("", how, none), cond("a", how, text("x")), cond("b", how, num(1)), cond("a", how, num(1000)), cond("a", how, impl.Val{N: 1}), cond("b", how, text("X")),
			} {
				if impl.CondHas(s, c, row) {
					t.Errorf("CondHas of %+v and %+v is true", c, row)
				}
			}
		}
		for _, c := range []impl.Cond{cond("a", impl.CondSame, row[0]), cond("b", impl.CondSame, row[1])} {
			if !impl.CondHas(s, c, row) {
				t.Errorf("CondHas of %+v and %+v is false", c, row)
			}
			for _, wrong := range [][]impl.Val{nil, {}, row[:1], append(slices.Clone(row), none), append(slices.Clone(row), row...), slices.Repeat(row, 40)} {
				if impl.CondHas(s, c, wrong) {
					t.Errorf("CondHas of %+v and %+v is true", c, wrong)
				}
			}
		}
	}
	for how := range 5 {
		for _, row := range [][]impl.Val{nil, vals(num(1)), vals(num(1), none, none)} {
			if impl.CondHas(s, cond("a", how, num(1)), row) || impl.CondHas(s, cond("a", how, num(0)), row) || impl.CondHas(s, cond("a", how, num(2)), row) {
				t.Errorf("CondHas with %d of %d values is true", how, len(row))
			}
		}
	}
}

// Of the values in a row no more is asked than how many there are; ValLess tells of any two.
func TestCondHasAnyValues(t *testing.T) {
	s := []impl.Col{numCol("a"), textCol("b")}
	for _, v := range wrongVals() {
		for _, as := range []impl.Val{num(0), num(999), num(-999)} {
			row := vals(v, v)
			if impl.CondHas(s, cond("a", impl.CondSame, as), row) {
				t.Errorf("%+v is %+v", v, as)
			}
			if got, want := impl.CondHas(s, cond("a", impl.CondLess, as), row), v.Kind != 0 && impl.ValLess(v, as); got != want {
				t.Errorf("%+v less than %+v is %v", v, as, got)
			}
			if got, want := impl.CondHas(s, cond("a", impl.CondMore, as), row), v.Kind != 0 && impl.ValLess(as, v); got != want {
				t.Errorf("%+v more than %+v is %v", v, as, got)
			}
		}
		if impl.CondHas(s, cond("b", impl.CondSame, none), vals(v, v)) {
			t.Errorf("%+v is nothing", v)
		}
		if !impl.CondHas(s, cond("b", impl.CondSame, none), vals(v, none)) {
			t.Errorf("%+v ahead of nothing is asked", v)
		}
	}
}

func TestAskIds(t *testing.T) {
	for what, c := range map[string]struct {
		list []impl.Cond
		want []int
	}{
		"no conditions":                 {nil, inventoryIds()},
		"an empty list":                 {conds(), inventoryIds()},
		"one number":                    {conds(cond("n", 1, num(3))), ids(2, 8)},
		"a number below 0":              {conds(cond("n", 1, num(-7))), ids(5, 19)},
		"nought":                        {conds(cond("n", 1, num(0))), ids(9)},
		"a number that none has":        {conds(cond("n", 1, num(7))), nil},
		"nothing for a number":          {conds(cond("n", 1, none)), ids(3, 12)},
		"less":                          {conds(cond("n", 2, num(3))), ids(5, 9, 19)},
		"less than nought":              {conds(cond("n", 2, num(0))), ids(5, 19)},
		"less than the least":           {conds(cond("n", 2, num(-7))), nil},
		"less than any":                 {conds(cond("n", 2, num(-999))), nil},
		"less than the most":            {conds(cond("n", 2, num(999))), ids(2, 5, 8, 9, 19)},
		"more":                          {conds(cond("n", 3, num(-7))), ids(2, 8, 9)},
		"more than one below":           {conds(cond("n", 3, num(-8))), ids(2, 5, 8, 9, 19)},
		"more than the greatest":        {conds(cond("n", 3, num(3))), nil},
		"a text":                        {conds(cond("s", 1, text("b"))), ids(2, 9)},
		"the empty text":                {conds(cond("s", 1, text(""))), ids(8)},
		"decimals":                      {conds(cond("s", 1, text("-1"))), ids(19)},
		"nothing for a text":            {conds(cond("s", 1, none)), ids(5, 12)},
		"texts ahead":                   {conds(cond("s", 2, text("b"))), ids(3, 8, 19)},
		"texts ahead of the empty one":  {conds(cond("s", 2, text(""))), nil},
		"texts behind the empty one":    {conds(cond("s", 3, text(""))), ids(2, 3, 9, 19)},
		"texts behind":                  {conds(cond("s", 3, text("-1"))), ids(2, 3, 9)},
		"two":                           {conds(cond("n", 1, num(3)), cond("s", 1, text("b"))), ids(2)},
		"two the other way round":       {conds(cond("s", 1, text("b")), cond("n", 1, num(3))), ids(2)},
		"two that none meets both":      {conds(cond("n", 1, num(3)), cond("s", 1, text("a"))), nil},
		"two of one column":             {conds(cond("n", 3, num(-7)), cond("n", 2, num(3))), ids(9)},
		"two that bar each other":       {conds(cond("n", 1, num(3)), cond("n", 1, num(0))), nil},
		"less and nothing":              {conds(cond("n", 2, num(3)), cond("s", 1, none)), ids(5)},
		"nothing thrice":                {conds(cond("n", 1, none), cond("s", 1, none), cond("z", 1, none)), ids(12)},
		"three":                         {conds(cond("n", 2, num(999)), cond("s", 3, text("")), cond("z", 1, num(1))), ids(2, 9)},
		"three that one meets":          {conds(cond("n", 2, num(0)), cond("s", 2, text("a")), cond("z", 3, num(1))), ids(19)},
		"three of which the first bars": {conds(cond("n", 3, num(900)), cond("s", 1, text("b")), cond("z", 1, num(1))), nil},
		"three of which the last bars":  {conds(cond("s", 1, text("b")), cond("z", 1, num(1)), cond("n", 3, num(900))), nil},
		"one thrice":                    {conds(cond("z", 1, num(1)), cond("z", 1, num(1)), cond("z", 1, num(1))), ids(2, 5, 9)},
	} {
		if got := impl.AskIds(inventory(), c.list); !slices.Equal(got, c.want) {
			t.Errorf("%s: AskIds is %v, not %v", what, got, c.want)
		}
	}
}

func TestAskIdsRefuses(t *testing.T) {
	fine := cond("z", impl.CondSame, num(1))
	// All of these are met by rows, and there is but one too many.
	for n := 4; n < 9; n++ {
		if got := impl.AskIds(inventory(), slices.Repeat(conds(fine), n)); len(got) != 0 {
			t.Errorf("AskIds of %d conditions is %v", n, got)
		}
	}
	if got := impl.AskIds(inventory(), slices.Repeat(conds(fine), 3)); len(got) != 3 {
		t.Errorf("AskIds of three conditions is %v", got)
	}
	wrong := conds(impl.Cond{}, cond("n", 0, num(3)), cond("n", 4, num(3)), cond("n", -1, num(3)), cond("n", 2, none), cond("n", 3, none), cond("n", 1, text("3")), cond("s", 1, num(3)), cond("n", 1, num(1000)), cond("n", 1, impl.Val{N: 1}))
	for _, name := range noColumns() {
		wrong = append(wrong, cond(name, 1, none), cond(name, 2, num(3)))
	}
	never := cond("n", impl.CondSame, num(77))
	for _, c := range wrong {
		for _, list := range [][]impl.Cond{conds(c), conds(c, fine), conds(fine, c), conds(c, fine, fine), conds(fine, c, fine), conds(fine, fine, c), conds(c, never), conds(never, c), conds(c, c, c)} {
			if got := impl.AskIds(inventory(), list); len(got) != 0 {
				t.Errorf("AskIds of %+v is %v", list, got)
			}
		}
	}
}

func TestAskWrongTables(t *testing.T) {
	for what, x := range wrongTables() {
		some := [][]impl.Cond{nil, conds(cond("a", 1, none)), conds(cond("bb", 1, none)), conds(cond("bb", 3, num(0))), conds(cond("d", 1, text("w"))), conds(cond("k", 2, num(9)))}
		for _, list := range some {
			if got := impl.AskIds(x, list); len(got) != 0 {
				t.Errorf("%s: AskIds of %+v is %v", what, list, got)
			}
		}
		for _, list := range [][]int{nil, {1}, {7}, {1, 3, 4, 7}, {0}, {-1}} {
			for _, name := range []string{"a", "bb", "ccc", "d", "k", ""} {
				allWrong(t, what, x, list, name)
			}
			if got := impl.AskCols(x, list, nil); len(got) != 0 {
				t.Errorf("%s: AskCols of %v and no names is %v", what, list, got)
			}
		}
	}
}

func TestAskNoRows(t *testing.T) {
	x := impl.TableNew(three())
	for _, list := range [][]impl.Cond{nil, conds(cond("a", 1, none)), conds(cond("a", 3, num(-1)), cond("bb", 1, text("x"))), conds(cond("zz", 1, none))} {
		if got := impl.AskIds(x, list); len(got) != 0 {
			t.Errorf("AskIds of %+v is %v", list, got)
		}
	}
	for _, list := range [][]int{nil, {}, {0}, {1}, {2}, {-1}} {
		allWrong(t, "no rows", x, list, "a")
	}
}

func TestAskOrder(t *testing.T) {
	for _, c := range []struct {
		name     string
		up, down []int
	}{
		{"n", ids(3, 12, 5, 19, 9, 2, 8), ids(2, 8, 9, 5, 19, 3, 12)},
		{"s", ids(5, 12, 8, 19, 3, 2, 9), ids(2, 9, 3, 19, 8, 5, 12)},
		{"z", ids(3, 8, 12, 2, 5, 9, 19), ids(19, 2, 5, 9, 3, 8, 12)},
	} {
		// Some of the rows are as they stand among all, in whatever order they are told.
		eachOrder(inventoryIds(), func(list []int) {
			up := slices.DeleteFunc(slices.Clone(c.up), func(id int) bool { return !slices.Contains(list, id) })
			down := slices.DeleteFunc(slices.Clone(c.down), func(id int) bool { return !slices.Contains(list, id) })
			if got := impl.AskOrder(inventory(), list, c.name, false); !slices.Equal(got, up) {
				t.Fatalf("AskOrder of %v by %s is %v, not %v", list, c.name, got, up)
			}
			if got := impl.AskOrder(inventory(), list, c.name, true); !slices.Equal(got, down) {
				t.Fatalf("AskOrder of %v by %s down is %v, not %v", list, c.name, got, down)
			}
		})
	}
}

// eachOrder goes through all lists of some of these, each at most once, in each order.
func eachOrder(list []int, f func(some []int)) {
	var grow func(some []int)
	grow = func(some []int) {
		f(some)
		for _, x := range list {
			if !slices.Contains(some, x) {
				grow(append(slices.Clone(some), x))
			}
		}
	}
	grow(nil)
}

func TestAskOrderOneValue(t *testing.T) {
	for what, v := range map[string]impl.Val{"nothing": none, "a number": num(-4)} {
		x := impl.Table{First: colsOf(1), Next: 60}
		for _, id := range ids(1, 7, 9, 10, 33, 50, 58, 59) {
			x.Rows = append(x.Rows, impl.Row{Id: id, Vals: vals(v)})
		}
		for _, down := range []bool{false, true} {
			for _, list := range [][]int{{1, 7, 9, 10, 33, 50, 58, 59}, {59, 58, 50, 33, 10, 9, 7, 1}, {33, 1, 59, 9, 7, 58, 10, 50}} {
				if got := impl.AskOrder(x, list, "a", down); !slices.Equal(got, ids(1, 7, 9, 10, 33, 50, 58, 59)) {
					t.Errorf("%s: AskOrder of %v, %v is %v", what, list, down, got)
				}
			}
		}
	}
}

func TestAskRowsRefused(t *testing.T) {
	x := inventory()
	for _, list := range wrongIds() {
		for _, name := range []string{"n", "s", "z"} {
			allWrong(t, "rows", x, list, name)
		}
		for _, some := range [][]string{nil, {}, {"n", "s", "z"}} {
			if got := impl.AskCols(x, list, some); len(got) != 0 {
				t.Errorf("AskCols of %v and %v is %v", list, some, got)
			}
		}
	}
	for _, name := range noColumns() {
		for _, list := range [][]int{nil, {2}, {19, 2}, inventoryIds()} {
			allWrong(t, "columns", x, list, name)
		}
	}
	for _, name := range []string{"n", "s", "z"} {
		allWrong(t, "no Ids", x, nil, name)
		allWrong(t, "an empty list", x, ids(), name)
	}
}

func TestAskCols(t *testing.T) {
	x := inventory()
	have := map[int]map[string]impl.Val{}
	for _, r := range x.Rows {
		have[r.Id] = map[string]impl.Val{"n": r.Vals[0], "s": r.Vals[1], "z": r.Vals[2]}
	}
	some := [][]string{nil, {}, {"n"}, {"s"}, {"z"}, {"n", "s", "z"}, {"z", "s", "n"}, {"s", "s"}, {"n", "z", "n"}, {"z", "n", "s", "s"}, {"n", "s", "z", "n", "s"}, {"z", "z", "z", "z", "z"}}
	for _, list := range [][]int{nil, {}, {2}, {12}, {19}, {3, 2}, {19, 2, 12}, inventoryIds(), {19, 12, 9, 8, 5, 3, 2}} {
		for _, cols := range some {
			var want [][]impl.Val
			for _, id := range list {
				var row []impl.Val
				for _, name := range cols {
					row = append(row, have[id][name])
				}
				want = append(want, row)
			}
			if got := impl.AskCols(x, list, cols); !slices.EqualFunc(got, want, slices.Equal) {
				t.Errorf("AskCols of %v and %v is %v, not %v", list, cols, got, want)
			}
		}
	}
	for n := 6; n < 9; n++ {
		if got := impl.AskCols(x, ids(2, 3), slices.Repeat(names("n"), n)); len(got) != 0 {
			t.Errorf("AskCols of %d names is %v", n, got)
		}
	}
	for _, wrong := range noColumns() {
		for _, cols := range [][]string{{wrong}, {"n", wrong}, {wrong, "n"}, {"n", "s", "z", "n", wrong}, {"n", wrong, "z", "n", "s"}} {
			if got := impl.AskCols(x, ids(2, 3), cols); len(got) != 0 {
				t.Errorf("AskCols of %q is %v", cols, got)
			}
		}
	}
	// A row for each Id, though there is nothing in it.
	if got := impl.AskCols(x, ids(2, 9, 3), nil); len(got) != 3 || len(got[0])+len(got[1])+len(got[2]) != 0 {
		t.Errorf("AskCols of three rows and no names is %v", got)
	}
}

func TestAskSum(t *testing.T) {
	for _, c := range []struct {
		list   []int
		name   string
		n, sum int
	}{
		{inventoryIds(), "n", 5, -8},
		{ids(19, 12, 9, 8, 5, 3, 2), "n", 5, -8},
		{inventoryIds(), "z", 4, 5},
		{inventoryIds(), "s", 0, 0},
		{ids(2, 8), "n", 2, 6},
		{ids(8), "n", 1, 3},
		{ids(5, 19), "n", 2, -14},
		{ids(9), "n", 1, 0},
		{ids(3, 12), "n", 0, 0},
		{ids(12, 2), "n", 1, 3},
		{ids(19), "s", 0, 0},
		{nil, "n", 0, 0},
	} {
		if n, sum := impl.AskSum(inventory(), c.list, c.name); n != c.n || sum != c.sum {
			t.Errorf("AskSum of %v and %s is %d, %d, not %d, %d", c.list, c.name, n, sum, c.n, c.sum)
		}
	}
	for _, v := range []int{999, -999, 1, 0} {
		x := rowsOf(numCol("a"), 8)
		for i := range x.Rows {
			x.Rows[i].Vals = vals(num(v))
		}
		if n, sum := impl.AskSum(x, ids(1, 2, 3, 4, 5, 6, 7, 8), "a"); n != 8 || sum != 8*v {
			t.Errorf("AskSum of eight times %d is %d, %d", v, n, sum)
		}
	}
}

// Promise 10, at a table whose rows were written ahead of, between and behind changes of all four Kinds.
func TestPromise10RowsAsTheyAre(t *testing.T) {
	x := rich()
	all := ids(1, 3, 4, 7)
	for _, c := range []struct {
		list []impl.Cond
		want []int
	}{
		{nil, all},
		{conds(cond("bb", 1, num(12))), ids(1)}, {conds(cond("bb", 1, none)), ids(3, 7)}, {conds(cond("bb", 3, num(8))), ids(1, 4)}, {conds(cond("bb", 2, num(12))), ids(4)},
		{conds(cond("bb", 1, text("12"))), nil}, {conds(cond("bb", 1, text("x"))), nil},
		{conds(cond("d", 1, text("q"))), ids(1)}, {conds(cond("d", 1, text("w"))), ids(3, 4)}, {conds(cond("d", 1, none)), nil}, {conds(cond("d", 2, text("w"))), ids(1, 7)},
		{conds(cond("k", 3, num(2))), ids(1, 7)}, {conds(cond("k", 1, none)), ids(3, 4)}, {conds(cond("k", 1, none), cond("bb", 1, none)), ids(3)},
		{conds(cond("ccc", 1, none)), nil}, {conds(cond("ccc", 3, num(2))), nil}, {conds(cond("a", 1, num(5))), nil}, {conds(cond("a", 1, none)), nil},
	} {
		if got := impl.AskIds(x, c.list); !slices.Equal(got, c.want) {
			t.Errorf("AskIds of %+v is %v, not %v", c.list, got, c.want)
		}
	}
	for _, c := range []struct {
		name     string
		up, down []int
		n, sum   int
	}{
		{"bb", ids(3, 7, 4, 1), ids(1, 4, 3, 7), 2, 21},
		{"k", ids(3, 4, 1, 7), ids(7, 1, 3, 4), 2, 7},
		{"d", ids(7, 1, 3, 4), ids(3, 4, 1, 7), 0, 0},
	} {
		for _, list := range [][]int{all, {7, 4, 3, 1}, {4, 1, 7, 3}} {
			if got := impl.AskOrder(x, list, c.name, false); !slices.Equal(got, c.up) {
				t.Errorf("AskOrder by %s is %v, not %v", c.name, got, c.up)
			}
			if got := impl.AskOrder(x, list, c.name, true); !slices.Equal(got, c.down) {
				t.Errorf("AskOrder by %s down is %v, not %v", c.name, got, c.down)
			}
			if n, sum := impl.AskSum(x, list, c.name); n != c.n || sum != c.sum {
				t.Errorf("AskSum of %s is %d, %d, not %d, %d", c.name, n, sum, c.n, c.sum)
			}
		}
	}
	for _, name := range []string{"a", "ccc"} {
		allWrong(t, "a column that was there", x, all, name)
	}
	want := [][]impl.Val{vals(text(""), none), vals(text("q"), num(12)), vals(text("w"), num(9))}
	if got := impl.AskCols(x, ids(7, 1, 4), names("d", "bb")); !slices.EqualFunc(got, want, slices.Equal) {
		t.Errorf("AskCols is %v, not %v", got, want)
	}
}

// aheadOf are tables whose rows were written ahead of one change, and the same with their rows written anew, by hand.
func aheadOf() map[string]struct{ old, anew impl.Table } {
	type pair = struct{ old, anew impl.Table }
	first := []impl.Col{numCol("n"), textCol("s")}
	rows := func(ver int, list ...[]impl.Val) []impl.Row {
		var all []impl.Row
		for i, v := range list {
			all = append(all, impl.Row{Id: i + 2, Ver: ver, Vals: v})
		}
		return all
	}
	was := rows(0, vals(num(5), text("5")), vals(none, text("x")), vals(num(-3), text("-3")), vals(num(5), none), vals(num(0), text("03")))
	pairOf := func(c impl.Change, cols []impl.Col, list ...[]impl.Val) pair {
		return pair{impl.Table{First: first, Changes: []impl.Change{c}, Rows: was, Next: 9}, impl.Table{First: cols, Rows: rows(0, list...), Next: 9}}
	}
	def := impl.Col{Name: "d", Kind: impl.KindNum, Def: num(4)}
	return map[string]pair{
		"added with a Def": pairOf(add(def), append(slices.Clone(first), def),
			vals(num(5), text("5"), num(4)), vals(none, text("x"), num(4)), vals(num(-3), text("-3"), num(4)), vals(num(5), none, num(4)), vals(num(0), text("03"), num(4))),
		"added without one": pairOf(add(textCol("d")), append(slices.Clone(first), textCol("d")),
			vals(num(5), text("5"), none), vals(none, text("x"), none), vals(num(-3), text("-3"), none), vals(num(5), none, none), vals(num(0), text("03"), none)),
		"dropped": pairOf(drop("n"), []impl.Col{textCol("s")},
			vals(text("5")), vals(text("x")), vals(text("-3")), vals(none), vals(text("03"))),
		"named otherwise": pairOf(rename("n", "d"), []impl.Col{numCol("d"), textCol("s")},
			vals(num(5), text("5")), vals(none, text("x")), vals(num(-3), text("-3")), vals(num(5), none), vals(num(0), text("03"))),
		"a number that is a text": pairOf(retype("n", impl.KindText), []impl.Col{textCol("n"), textCol("s")},
			vals(text("5"), text("5")), vals(none, text("x")), vals(text("-3"), text("-3")), vals(text("5"), none), vals(text("0"), text("03"))),
		"a text that is a number": pairOf(retype("s", impl.KindNum), []impl.Col{numCol("n"), numCol("s")},
			vals(num(5), num(5)), vals(none, none), vals(num(-3), num(-3)), vals(num(5), none), vals(num(0), none)),
	}
}

// Promise 10: what is asked is told as of rows that were written anew.
func TestPromise10AheadOfAChange(t *testing.T) {
	all := ids(2, 3, 4, 5, 6)
	for what, c := range aheadOf() {
		if !impl.TableOk(c.old) || !impl.TableOk(c.anew) || tableText(impl.TableNow(c.old)) != tableText(c.anew) {
			t.Fatalf("%s: %+v is not %+v written anew", what, c.old, c.anew)
		}
		asked := 0
		for _, name := range []string{"n", "s", "d", "zz"} {
			for how := range 5 {
				for _, v := range []impl.Val{none, num(-3), num(0), num(4), num(5), num(-999), text("5"), text("-3"), text("03"), text("x"), text("")} {
					got, want := impl.AskIds(c.old, conds(cond(name, how, v))), impl.AskIds(c.anew, conds(cond(name, how, v)))
					if !slices.Equal(got, want) {
						t.Errorf("%s: AskIds of %s, %d and %+v is %v, and anew %v", what, name, how, v, got, want)
					}
					asked += len(got)
				}
			}
			for _, down := range []bool{false, true} {
				got, want := impl.AskOrder(c.old, all, name, down), impl.AskOrder(c.anew, all, name, down)
				if !slices.Equal(got, want) {
					t.Errorf("%s: AskOrder by %s is %v, and anew %v", what, name, got, want)
				}
			}
			n, sum := impl.AskSum(c.old, all, name)
			wantN, wantSum := impl.AskSum(c.anew, all, name)
			if n != wantN || sum != wantSum {
				t.Errorf("%s: AskSum of %s is %d, %d, and anew %d, %d", what, name, n, sum, wantN, wantSum)
			}
			got, want := impl.AskCols(c.old, all, names(name, "s")), impl.AskCols(c.anew, all, names(name, "s"))
			if !slices.EqualFunc(got, want, slices.Equal) {
				t.Errorf("%s: AskCols of %s is %v, and anew %v", what, name, got, want)
			}
		}
		if asked == 0 {
			t.Errorf("%s: no row was found", what)
		}
	}
}

func TestAskBack(t *testing.T) {
	for what, c := range map[string]struct {
		b    impl.Base
		to   impl.Ref
		want []impl.Ref
	}{
		"two rows":                       {chain(), ref("t", 1), refs(ref("u", 1), ref("u", 2))},
		"by the second link alone":       {chain(), ref("t", 2), refs(ref("u", 1))},
		"by two links, told once":        {chain(), ref("t", 3), refs(ref("u", 3))},
		"by HowStop":                     {chain(), ref("u", 1), refs(ref("v", 1))},
		"by HowNone":                     {chain(), ref("u", 2), refs(ref("v", 2), ref("v", 3))},
		"named by none":                  {chain(), ref("u", 3), nil},
		"a table that no link names":     {chain(), ref("v", 1), nil},
		"a row of nothing":               {chain(), ref("v", 4), nil},
		"a ring":                         {rightBases()["a ring of rows"], ref("t", 1), refs(ref("t", 3))},
		"itself":                         {rightBases()["rows that name themselves"], ref("t", 1), refs(ref("t", 1))},
		"itself, and by others":          {rightBases()["rows that name themselves"], ref("t", 2), refs(ref("t", 1), ref("t", 2), ref("t", 3))},
		"itself by the last link":        {rightBases()["rows that name themselves"], ref("t", 3), refs(ref("t", 3))},
		"each other by four links":       {rightBases()["four links of one row"], ref("u", 1), refs(ref("t", 1))},
		"a table and itself, full":       {rightBases()["full tables"], ref("v", 8), refs(ref("v", 8), ref("t", 1))},
		"itself in a full table":         {rightBases()["full tables"], ref("v", 7), refs(ref("v", 7))},
		"a table behind":                 {rightBases()["full tables"], ref("t", 1), nil},
		"Need with HowGone":              {rightBases()["Need with HowGone"], ref("t", 2), refs(ref("u", 1))},
		"Need with HowStop":              {rightBases()["Need with HowStop"], ref("t", 2), refs(ref("u", 1))},
		"numbers that are no names":      {impl.Base{Tabs: tabs(keys("t", [2]int{1, 1}, [2]int{1, 2}))}, ref("t", 1), nil},
		"a past":                         {past(), ref("t", 5), refs(ref("t", 2), ref("t", 5), ref("u", 1))},
		"a past, by one row of its own":  {past(), ref("t", 2), refs(ref("t", 4))},
		"a past, by one row of another":  {past(), ref("t", 4), refs(ref("u", 2))},
		"a past, by what is nothing now": {past(), ref("t", 6), nil},
	} {
		if !impl.BaseOk(c.b) {
			t.Errorf("%s: the base is not ok", what)
		}
		if got := impl.AskBack(c.b, c.to.Name, c.to.Id); !slices.Equal(got, c.want) {
			t.Errorf("%s: AskBack of %v is %v, not %v", what, c.to, got, c.want)
		}
	}
}

// The rows come in the order of the tables and of their Ids, whatever the order of the links is.
func TestAskBackOrder(t *testing.T) {
	all := links(link("t", "k", "t", impl.HowGone), link("u", "k", "t", impl.HowStop), link("u", "m", "t", impl.HowNone), link("v", "k", "t", impl.HowGone))
	rows := [][2]int{{2, 2}, {}, {2}, {0, 2}}
	naming := map[string][]int{"t": ids(1, 3), "u": ids(1, 3, 4), "v": ids(1, 3)}
	asked := 0
	eachOrder(ids(0, 1, 2, 3), func(order []int) {
		if len(order) < 4 {
			return
		}
		var list []impl.Link
		for _, i := range order {
			list = append(list, all[i])
		}
		for _, tables := range [][]string{{"t", "u", "v"}, {"v", "u", "t"}, {"u", "t", "v"}, {"v", "t", "u"}} {
			b := impl.Base{Links: list}
			var want []impl.Ref
			for _, name := range tables {
				b.Tabs = append(b.Tabs, keys(name, rows...))
				for _, id := range naming[name] {
					want = append(want, ref(name, id))
				}
			}
			if got := impl.AskBack(b, "t", 2); !slices.Equal(got, want) {
				t.Errorf("with the tables %v and the links %v AskBack is %v, not %v", tables, list, got, want)
			}
			asked++
		}
	})
	if asked != 96 {
		t.Errorf("asked %d times", asked)
	}
}

func TestAskBackRefuses(t *testing.T) {
	for _, name := range []string{"", "T", "w", "tt", "t ", "\xff"} {
		for id := range 5 {
			if got := impl.AskBack(chain(), name, id); len(got) != 0 {
				t.Errorf("AskBack of %q %d is %v", name, id, got)
			}
		}
	}
	for _, id := range ids(0, -1, 4, 7, 60, math.MinInt, math.MaxInt) {
		if got := impl.AskBack(chain(), "t", id); len(got) != 0 {
			t.Errorf("AskBack of t %d is %v", id, got)
		}
	}
	for what, b := range wrongBases() {
		for _, name := range []string{"t", "u", "v", ""} {
			for id := range 6 {
				if got := impl.AskBack(b, name, id); len(got) != 0 {
					t.Errorf("%s: AskBack of %q %d is %v", what, name, id, got)
				}
			}
		}
	}
}

// colParts is all lists of what AskCols answers. The values of each row are parts of their own.
func colParts(rows [][]impl.Val) []part {
	all := rows[:cap(rows)]
	list := []part{{
		wipe: func() { scribble(all, nil) },
		tell: func() string {
			told := ""
			for _, row := range all {
				told += fmt.Sprint(len(row), ";")
			}
			return told
		},
	}}
	for _, row := range all {
		list = append(list, partOf(row, text("wipe")))
	}
	return list
}

func TestAskMemory(t *testing.T) {
	tables := rightTables()
	tables["inventory"] = inventory()
	for _, what := range []string{"nothing", "nine rows", "nine changes", "Next 0", "no values at 1"} {
		tables[what] = wrongTables()[what]
	}
	someConds := [][]impl.Cond{nil, conds(cond("a", 1, none)), conds(cond("a", 3, num(0)), cond("a", 2, num(7))), conds(cond("bb", 1, none), cond("k", 3, num(0)), cond("d", 1, text(""))), conds(cond("zz", 1, none)), slices.Repeat(conds(cond("a", 1, none)), 4)}
	someIds := [][]int{nil, {}, {1}, {3, 1}, {8, 7, 6, 5, 4, 3, 2, 1}, {7, 4, 3, 1}, {19, 2, 12, 3}, {2, 2}, {1, 1}, {61}}
	someNames := [][]string{nil, {}, {"a"}, {"bb", "k", "bb"}, {"n", "s", "z", "z", "n"}, {"a", "a", "a", "a", "a", "a"}, {"zz"}}
	for what, x := range tables {
		g := guardTable(x)
		shape := guard(impl.TableShape(x), textCol("m"))
		for _, some := range someConds {
			c := guard(some, cond("mark", 77, text("mark")))
			list := impl.AskIds(g.table, c.list)
			checkApart(t, what+": AskIds", []part{partOf(list, -7)})
			for i, one := range c.list {
				for _, r := range g.table.Rows {
					impl.CondOk(shape.list, one)
					impl.CondHas(shape.list, c.list[i], r.Vals)
				}
			}
			c.check(t, what+": AskIds")
		}
		for _, some := range someIds {
			list := guard(some, 77)
			for _, cols := range someNames {
				told := guard(cols, "mark")
				checkApart(t, what+": AskCols", colParts(impl.AskCols(g.table, list.list, told.list)))
				told.check(t, what+": AskCols")
			}
			for _, name := range []string{"a", "bb", "n", "zz"} {
				checkApart(t, what+": AskOrder", []part{partOf(impl.AskOrder(g.table, list.list, name, false), -7), partOf(impl.AskOrder(g.table, list.list, name, true), -7)})
				impl.AskSum(g.table, list.list, name)
			}
			list.check(t, what+": Ids told")
		}
		shape.check(t, what+": CondHas")
		g.check(t, what+": what is asked")
	}
	for what, b := range rightBases() {
		g := guardBase(b)
		for _, r := range allRefs(b) {
			checkApart(t, what+": AskBack", []part{partOf(impl.AskBack(g.base, r.Name, r.Id), ref("w", -7)), partOf(impl.AskBack(g.base, r.Name, r.Id), ref("w", -7))})
		}
		g.check(t, what+": AskBack")
	}
}

// What was answered stays as it was when an argument is turned behind it.
func TestAskAnswersStay(t *testing.T) {
	x := rich()
	told := ids(7, 4, 3, 1)
	cols := names("d", "bb", "d")
	rows := impl.AskCols(x, told, cols)
	up := impl.AskOrder(x, told, "bb", false)
	all := impl.AskIds(x, nil)
	was := fmt.Sprint(rows, up, all)
	scribble(told, -7)
	scribble(cols, "w")
	for _, p := range tableParts(x) {
		p.wipe()
	}
	if now := fmt.Sprint(rows, up, all); now != was {
		t.Errorf("answers were %s, and are %s", was, now)
	}
	b := past()
	back := impl.AskBack(b, "t", 5)
	was = fmt.Sprint(back)
	for _, p := range baseParts(b) {
		p.wipe()
	}
	if now := fmt.Sprint(back); now != was {
		t.Errorf("AskBack answered %s, and that is %s", was, now)
	}
}
