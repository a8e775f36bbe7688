package tests

import (
	"fmt"
	"math"
	"slices"
	"testing"

	"loop.example/custumal/impl"
)

func entry(v impl.Val, id int) impl.Entry { return impl.Entry{Val: v, Id: id} }

func entries(list ...impl.Entry) []impl.Entry { return list }

// register is as many entries as there may be: nothing, numbers below 0 and texts among them, and several of one value.
func register() []impl.Entry {
	return entries(
		entry(none, 3), entry(none, 7),
		entry(num(-999), 60), entry(num(-7), 2), entry(num(-7), 5), entry(num(0), 1), entry(num(3), 2), entry(num(3), 8), entry(num(3), 60), entry(num(999), 4),
		entry(text(""), 1), entry(text("-1"), 2), entry(text("10"), 9), entry(text("9"), 9), entry(text("b"), 2), entry(text("b"), 3),
	)
}

// shelf is fewer entries, all kinds of values among them.
func shelf() []impl.Entry {
	return entries(entry(none, 3), entry(num(-7), 2), entry(num(3), 2), entry(num(3), 8), entry(text("b"), 5))
}

// manyEntries is that many entries that are in order, and of unlike values.
func manyEntries(n int) []impl.Entry {
	var x []impl.Entry
	for i := range n {
		x = append(x, entry(num(i-5), i%60+1))
	}
	return x
}

func entryIds(x []impl.Entry) []int {
	var list []int
	for _, e := range x {
		list = append(list, e.Id)
	}
	return list
}

// wrongIdsOfOne are Ids that no entry has.
func wrongIdsOfOne() []int {
	return ids(0, -1, -60, 61, 62, 999, 1<<32+1, math.MinInt, math.MaxInt)
}

// rightEntries are ok, each at an edge of its own.
func rightEntries() map[string][]impl.Entry {
	list := map[string][]impl.Entry{
		"no entries":                      nil,
		"an empty list":                   {},
		"one":                             {entry(num(5), 5)},
		"an Id of 1":                      {entry(none, 1)},
		"an Id of 60":                     {entry(text("x"), 60)},
		"sixteen":                         manyEntries(16),
		"sixteen of all kinds":            register(),
		"fifteen":                         manyEntries(15),
		"nothing ahead of the least":      {entry(none, 60), entry(num(-999), 1)},
		"numbers below 0":                 {entry(num(-999), 4), entry(num(-10), 3), entry(num(-9), 2), entry(num(-1), 1)},
		"a number that is longer":         {entry(num(9), 9), entry(num(10), 1)},
		"numbers ahead of texts":          {entry(num(999), 9), entry(text(""), 1)},
		"texts by their bytes":            {entry(text(""), 9), entry(text("-"), 8), entry(text("0"), 7), entry(text("10"), 6), entry(text("9"), 5), entry(text("a"), 4), entry(text("aa"), 3), entry(text("b"), 2)},
		"a number, and a text of it":      {entry(num(5), 5), entry(text("5"), 5)},
		"one Id, and unlike values":       {entry(none, 7), entry(num(1), 7), entry(num(2), 7), entry(text("a"), 7)},
		"one value, and unlike Ids":       {entry(num(2), 1), entry(num(2), 2), entry(num(2), 9), entry(num(2), 10), entry(num(2), 60)},
		"Ids the other way than values":   {entry(none, 60), entry(num(0), 30), entry(num(1), 20), entry(text("a"), 1)},
		"nothing several times":           {entry(none, 1), entry(none, 2), entry(none, 60)},
		"five of all kinds":               shelf(),
		"the least and the greatest ones": {entry(none, 1), entry(num(-999), 1), entry(num(999), 60), entry(text("zzzz"), 60)},
	}
	same := make([]impl.Entry, 16)
	for i := range same {
		same[i] = entry(text("s"), i+45)
	}
	list["sixteen of one value"] = same
	return list
}

// wrongEntries are not ok, each for a reason of its own.
func wrongEntries() map[string][]impl.Entry {
	list := map[string][]impl.Entry{
		"the wrong way round by their values": {entry(num(2), 1), entry(num(1), 2)},
		"by their Ids":                        {entry(num(2), 2), entry(num(2), 1)},
		"by their Ids, of nothing":            {entry(none, 2), entry(none, 1)},
		"by the Ids of all":                   {entry(num(2), 1), entry(num(1), 2), entry(num(0), 3)},
		"by decimals":                         {entry(num(10), 1), entry(num(9), 1)},
		"by how far they are from 0":          {entry(num(-1), 1), entry(num(-2), 1)},
		"nothing behind a number":             {entry(num(-5), 1), entry(none, 2)},
		"a text ahead of a number":            {entry(text(""), 1), entry(num(5), 2)},
		"a text ahead of nothing":             {entry(text(""), 1), entry(none, 2)},
		"a text as if it were a number":       {entry(text("9"), 1), entry(text("10"), 2)},
		"a longer text ahead":                 {entry(text("aa"), 1), entry(text("a"), 2)},
		"the last two the wrong way round":    append(shelf()[:3], shelf()[4], shelf()[3]),
		"the first two the wrong way round":   append(entries(shelf()[1], shelf()[0]), shelf()[2:]...),
	}
	turned := register()
	slices.Reverse(turned)
	list["all the wrong way round"] = turned
	for _, n := range ids(17, 18, 32, 60, 300) {
		list[fmt.Sprint(n, " entries")] = manyEntries(n)
	}
	for i, e := range shelf() {
		list[fmt.Sprint("the same twice at ", i)] = slices.Insert(shelf(), i, e)
		for _, id := range wrongIdsOfOne() {
			// Of unlike values, so that their order does not hang on the Id.
			x := manyEntries(5)
			x[i].Id = id
			list[fmt.Sprint("the Id ", id, " at ", i)] = x
		}
	}
	for i, v := range wrongVals() {
		list[fmt.Sprint("a value alone that is not ok ", i)] = entries(entry(v, 1))
		list[fmt.Sprint("a value in its place that is not ok ", i)] = inOrder(append(shelf(), entry(v, 1)))
	}
	return list
}

func TestIndexOk(t *testing.T) {
	for what, x := range rightEntries() {
		if !impl.IndexOk(x) {
			t.Errorf("%s: IndexOk of %v is false", what, x)
		}
	}
	for id := -2; id < 64; id++ {
		if got, want := impl.IndexOk(entries(entry(num(5), id))), 1 <= id && id <= 60; got != want {
			t.Errorf("IndexOk of the Id %d is %v", id, got)
		}
	}
	for _, v := range rightVals() {
		if !impl.IndexOk(entries(entry(v, 9))) {
			t.Errorf("IndexOk of the value %+v is false", v)
		}
	}
}

// Of entries that are not ok each function has an answer of its own, whatever else it is given.
func TestIndexWrongEntries(t *testing.T) {
	for what, x := range wrongEntries() {
		if impl.IndexOk(x) {
			t.Errorf("%s: IndexOk of %v is true", what, x)
		}
		if impl.IndexOnce(x) {
			t.Errorf("%s: IndexOnce of %v is true", what, x)
		}
		for _, e := range append(slices.Clone(x), entry(none, 1), entry(num(4), 4), entry(text("zzzz"), 60), impl.Entry{}, entry(num(1000), 61)) {
			if y, ok := impl.IndexPut(x, e); ok || len(y) != 0 {
				t.Errorf("%s: IndexPut of %v is %v, %v", what, e, y, ok)
			}
			if y, ok := impl.IndexOff(x, e); ok || len(y) != 0 {
				t.Errorf("%s: IndexOff of %v is %v, %v", what, e, y, ok)
			}
			if list := impl.IndexFind(x, e.Val); len(list) != 0 {
				t.Errorf("%s: IndexFind of %+v is %v", what, e.Val, list)
			}
			for _, high := range vals(e.Val, num(999), text("zzzz"), impl.Val{Kind: 9}) {
				if list := impl.IndexSpan(x, none, high); len(list) != 0 {
					t.Errorf("%s: IndexSpan up to %+v is %v", what, high, list)
				}
				if list := impl.IndexSpan(x, e.Val, high); len(list) != 0 {
					t.Errorf("%s: IndexSpan from %+v to %+v is %v", what, e.Val, high, list)
				}
			}
		}
	}
}

func TestIndexOf(t *testing.T) {
	for name, want := range map[string][]impl.Entry{
		"n": {entry(none, 3), entry(none, 12), entry(num(-7), 5), entry(num(-7), 19), entry(num(0), 9), entry(num(3), 2), entry(num(3), 8)},
		"s": {entry(none, 5), entry(none, 12), entry(text(""), 8), entry(text("-1"), 19), entry(text("a"), 3), entry(text("b"), 2), entry(text("b"), 9)},
		"z": {entry(none, 3), entry(none, 8), entry(none, 12), entry(num(1), 2), entry(num(1), 5), entry(num(1), 9), entry(num(2), 19)},
	} {
		if got := impl.IndexOf(inventory(), name); !slices.Equal(got, want) {
			t.Errorf("IndexOf of %s is %v, not %v", name, got, want)
		}
	}
	// As they are, and not as they were written.
	for name, want := range map[string][]impl.Entry{
		"bb": {entry(none, 3), entry(none, 7), entry(num(9), 4), entry(num(12), 1)},
		"k":  {entry(none, 3), entry(none, 4), entry(num(3), 1), entry(num(4), 7)},
		"d":  {entry(text(""), 7), entry(text("q"), 1), entry(text("w"), 3), entry(text("w"), 4)},
		"a":  nil, "ccc": nil,
	} {
		if got := impl.IndexOf(rich(), name); !slices.Equal(got, want) {
			t.Errorf("IndexOf of %s is %v, not %v", name, got, want)
		}
	}
}

func TestIndexOfNone(t *testing.T) {
	for what, x := range wrongTables() {
		for _, name := range append(colNames(x.First), "a", "bb", "ccc", "d", "k", "zz", "") {
			if got := impl.IndexOf(x, name); len(got) != 0 {
				t.Errorf("%s: IndexOf of %q is %v", what, name, got)
			}
		}
	}
	for _, name := range noColumns() {
		if got := impl.IndexOf(inventory(), name); len(got) != 0 {
			t.Errorf("IndexOf of %q is %v", name, got)
		}
	}
	for _, name := range []string{"a", "bb", "ccc", "zz", ""} {
		if got := impl.IndexOf(impl.TableNew(three()), name); len(got) != 0 {
			t.Errorf("IndexOf of %q of no rows is %v", name, got)
		}
	}
}

func TestIndexOfOneValue(t *testing.T) {
	rows := ids(1, 7, 9, 10, 33, 50, 58, 59)
	for what, v := range map[string]impl.Val{"nothing": none, "a number": num(-4), "nought": num(0)} {
		x := impl.Table{First: colsOf(1), Next: 60}
		var want []impl.Entry
		for _, id := range rows {
			x.Rows = append(x.Rows, impl.Row{Id: id, Vals: vals(v)})
			want = append(want, entry(v, id))
		}
		if got := impl.IndexOf(x, "a"); !slices.Equal(got, want) {
			t.Errorf("%s: IndexOf is %v", what, got)
		}
	}
}

func TestIndexPut(t *testing.T) {
	for _, c := range []struct {
		e  impl.Entry
		at int
	}{
		{entry(none, 1), 0}, {entry(none, 2), 0}, {entry(none, 4), 1}, {entry(none, 60), 1},
		{entry(num(-999), 1), 1}, {entry(num(-8), 60), 1}, {entry(num(-7), 1), 1}, {entry(num(-7), 3), 2}, {entry(num(-6), 1), 2},
		{entry(num(0), 2), 2}, {entry(num(2), 60), 2}, {entry(num(3), 1), 2}, {entry(num(3), 3), 3}, {entry(num(3), 7), 3}, {entry(num(3), 9), 4}, {entry(num(3), 60), 4}, {entry(num(4), 1), 4}, {entry(num(999), 60), 4},
		{entry(text(""), 60), 4}, {entry(text("3"), 2), 4}, {entry(text("az"), 60), 4}, {entry(text("b"), 1), 4}, {entry(text("b"), 4), 4}, {entry(text("b"), 6), 5}, {entry(text("b-"), 1), 5}, {entry(text("zzzz"), 60), 5},
	} {
		got, ok := impl.IndexPut(shelf(), c.e)
		if want := slices.Insert(shelf(), c.at, c.e); !ok || !slices.Equal(got, want) {
			t.Errorf("IndexPut of %v is %v, %v, not %v", c.e, got, ok, want)
		}
		back, ok := impl.IndexOff(got, c.e)
		if !ok || !slices.Equal(back, shelf()) {
			t.Errorf("without %v again they are %v, %v", c.e, back, ok)
		}
		for _, some := range [][]impl.Entry{nil, {}} {
			if got, ok := impl.IndexPut(some, c.e); !ok || !slices.Equal(got, entries(c.e)) {
				t.Errorf("IndexPut of %v to none is %v, %v", c.e, got, ok)
			}
		}
	}
}

// wantAsTheyWere tells if what can not be put in, or taken out, is answered otherwise than by entries as they were.
func wantAsTheyWere(t *testing.T, what string, x []impl.Entry, e impl.Entry, got []impl.Entry, ok bool) {
	t.Helper()
	if ok || !slices.Equal(got, x) {
		t.Errorf("%s of %v of %v is %v, %v", what, e, x, got, ok)
	}
}

func TestIndexPutRefuses(t *testing.T) {
	for _, x := range rightEntries() {
		list := slices.Clone(x)
		for _, v := range wrongVals() {
			list = append(list, entry(v, 1), entry(v, 60), entry(v, 0))
		}
		for _, id := range wrongIdsOfOne() {
			list = append(list, entry(none, id), entry(num(4), id), entry(text("y"), id))
		}
		for _, e := range list {
			got, ok := impl.IndexPut(x, e)
			wantAsTheyWere(t, "IndexPut", x, e, got, ok)
		}
	}
}

func TestIndexPutFull(t *testing.T) {
	for what, x := range map[string][]impl.Entry{"of unlike values": manyEntries(16), "of all kinds": register(), "of one value": rightEntries()["sixteen of one value"]} {
		for _, e := range entries(entry(none, 1), entry(num(-400), 9), entry(num(400), 9), entry(text("s"), 1), entry(text("zzzz"), 60)) {
			got, ok := impl.IndexPut(x, e)
			wantAsTheyWere(t, what+": IndexPut", x, e, got, ok)
			for at := range x {
				fewer := slices.Delete(slices.Clone(x), at, at+1)
				got, ok := impl.IndexPut(fewer, e)
				if want := inOrder(append(fewer, e)); !ok || !slices.Equal(got, want) {
					t.Errorf("%s: IndexPut of %v to fifteen is %v, %v", what, e, got, ok)
				}
			}
		}
	}
}

func TestIndexOff(t *testing.T) {
	for what, x := range rightEntries() {
		for at, e := range x {
			got, ok := impl.IndexOff(x, e)
			if want := slices.Delete(slices.Clone(x), at, at+1); !ok || !slices.Equal(got, want) {
				t.Errorf("%s: IndexOff of %v is %v, %v", what, e, got, ok)
			}
			twice, ok := impl.IndexOff(got, e)
			wantAsTheyWere(t, what+": IndexOff again", got, e, twice, ok)
			back, ok := impl.IndexPut(got, e)
			if !ok || !slices.Equal(back, x) {
				t.Errorf("%s: with %v again they are %v, %v", what, e, back, ok)
			}
		}
	}
}

func TestIndexOffRefuses(t *testing.T) {
	list := entries(
		// Of a value that is there, and of an Id that is.
		entry(none, 1), entry(none, 2), entry(none, 8), entry(num(-7), 1), entry(num(-7), 3), entry(num(-7), 60), entry(num(3), 1), entry(num(3), 5), entry(num(3), 9), entry(text("b"), 1), entry(text("b"), 4),
		entry(num(-8), 2), entry(num(-6), 2), entry(num(4), 2), entry(num(7), 2), entry(num(-3), 8), entry(text("a"), 2), entry(text("bb"), 3), entry(text("3"), 2), entry(text("-7"), 2), entry(num(9), 9),
		impl.Entry{},
	)
	for _, v := range wrongVals() {
		for _, id := range ids(1, 2, 3, 60) {
			list = append(list, entry(v, id))
		}
	}
	for _, id := range wrongIdsOfOne() {
		list = append(list, entry(none, id), entry(num(-7), id), entry(num(3), id), entry(text("b"), id))
	}
	for _, x := range [][]impl.Entry{nil, {}, shelf(), register(), shelf()[:1], shelf()[4:]} {
		for _, e := range list {
			if slices.Contains(x, e) {
				t.Fatalf("%v is there", e)
			}
			got, ok := impl.IndexOff(x, e)
			wantAsTheyWere(t, "IndexOff", x, e, got, ok)
		}
	}
}

func TestIndexFind(t *testing.T) {
	for _, c := range []struct {
		v    impl.Val
		want []int
	}{
		{none, ids(3, 7)},
		{num(-999), ids(60)}, {num(-7), ids(2, 5)}, {num(0), ids(1)}, {num(3), ids(2, 8, 60)}, {num(999), ids(4)},
		{text(""), ids(1)}, {text("-1"), ids(2)}, {text("10"), ids(9)}, {text("9"), ids(9)}, {text("b"), ids(2, 3)},
		{num(-998), nil}, {num(-8), nil}, {num(-1), nil}, {num(1), nil}, {num(9), nil}, {num(10), nil}, {num(998), nil},
		{text("-"), nil}, {text("3"), nil}, {text("a"), nil}, {text("bb"), nil}, {text("zzzz"), nil}, {text("none"), nil},
	} {
		if got := impl.IndexFind(register(), c.v); !slices.Equal(got, c.want) {
			t.Errorf("IndexFind of %+v is %v, not %v", c.v, got, c.want)
		}
		if got := impl.IndexFind(nil, c.v); len(got) != 0 {
			t.Errorf("IndexFind of %+v of none is %v", c.v, got)
		}
	}
	for _, v := range wrongVals() {
		if got := impl.IndexFind(register(), v); len(got) != 0 {
			t.Errorf("IndexFind of %+v is %v", v, got)
		}
	}
	same := rightEntries()["sixteen of one value"]
	if got := impl.IndexFind(same, text("s")); !slices.Equal(got, entryIds(same)) {
		t.Errorf("IndexFind of sixteen is %v", got)
	}
}

func TestIndexSpan(t *testing.T) {
	all := entryIds(register())
	for what, c := range map[string]struct {
		low, high impl.Val
		want      []int
	}{
		"all":                          {none, text("zzzz"), all},
		"all, from end to end":         {none, text("b"), all},
		"all numbers":                  {num(-999), num(999), all[2:10]},
		"all texts":                    {text(""), text("b"), all[10:]},
		"nothing alone":                {none, none, ids(3, 7)},
		"from nothing to a number":     {none, num(-7), ids(3, 7, 60, 2, 5)},
		"from nothing to below all":    {none, num(-998), ids(3, 7, 60)},
		"one value":                    {num(3), num(3), ids(2, 8, 60)},
		"one value of one entry":       {num(0), num(0), ids(1)},
		"one value of none":            {num(1), num(1), nil},
		"one text":                     {text("b"), text("b"), ids(2, 3)},
		"from and to what is there":    {num(-7), num(3), ids(2, 5, 1, 2, 8, 60)},
		"from what is not there":       {num(-8), num(0), ids(2, 5, 1)},
		"to what is not there":         {num(-7), num(2), ids(2, 5, 1)},
		"from and to what is not":      {num(-6), num(998), ids(1, 2, 8, 60)},
		"between two":                  {num(4), num(998), nil},
		"between numbers and texts":    {num(999), text(""), ids(4, 1)},
		"from a number to texts":       {num(500), text("5"), ids(4, 1, 2, 9)},
		"texts by their bytes":         {text("1"), text("a"), ids(9, 9)},
		"behind all":                   {text("bb"), text("zzzz"), nil},
		"ending ahead":                 {num(3), num(-7), nil},
		"ending right ahead":           {num(3), num(2), nil},
		"ending ahead, of what is not": {num(5), num(4), nil},
		"ending at nothing":            {num(-999), none, nil},
		"from texts to numbers":        {text(""), num(999), nil},
		"from the last to the first":   {text("b"), none, nil},
		// Of values that are not ok ValLess tells where they stand, too.
		"from ahead of all":              {impl.Val{Kind: -1}, num(-999), ids(3, 7, 60)},
		"to behind all":                  {text("9"), impl.Val{Kind: 3}, ids(9, 2, 3)},
		"from ahead to behind all":       {impl.Val{Kind: math.MinInt}, impl.Val{Kind: math.MaxInt}, all},
		"from behind to ahead of all":    {impl.Val{Kind: math.MaxInt}, impl.Val{Kind: math.MinInt}, nil},
		"from behind nothing":            {impl.Val{N: 1}, num(-7), ids(60, 2, 5)},
		"to ahead of nothing":            {impl.Val{Kind: -1}, impl.Val{N: -1}, nil},
		"from the number below the last": {num(math.MinInt), num(math.MaxInt), all[2:10]},
		"from a text that no value is":   {text("A"), text("\xff"), ids(2, 3)},
	} {
		if got := impl.IndexSpan(register(), c.low, c.high); !slices.Equal(got, c.want) {
			t.Errorf("%s: IndexSpan from %+v to %+v is %v, not %v", what, c.low, c.high, got, c.want)
		}
		for _, x := range [][]impl.Entry{nil, {}} {
			if got := impl.IndexSpan(x, c.low, c.high); len(got) != 0 {
				t.Errorf("%s: IndexSpan of none is %v", what, got)
			}
		}
	}
}

func TestIndexOnce(t *testing.T) {
	for what, c := range map[string]struct {
		x    []impl.Entry
		want bool
	}{
		"no entries":                   {nil, true},
		"an empty list":                {entries(), true},
		"one":                          {entries(entry(num(1), 1)), true},
		"nothing once":                 {entries(entry(none, 1)), true},
		"nothing twice":                {entries(entry(none, 1), entry(none, 2)), true},
		"nothing thrice, and a number": {entries(entry(none, 1), entry(none, 2), entry(none, 3), entry(num(0), 1)), true},
		"sixteen of unlike values":     {manyEntries(16), true},
		"a number, and a text of it":   {entries(entry(num(5), 5), entry(text("5"), 6)), true},
		"one Id":                       {entries(entry(num(5), 5), entry(num(6), 5)), true},
		"two of one value":             {entries(entry(num(5), 5), entry(num(5), 6)), false},
		"two of nought":                {entries(entry(num(0), 1), entry(num(0), 60)), false},
		"two of the empty text":        {entries(entry(text(""), 1), entry(text(""), 2)), false},
		"two of a number below 0":      {entries(entry(none, 1), entry(none, 2), entry(num(-5), 1), entry(num(-5), 2)), false},
		"two at the end":               {entries(entry(none, 1), entry(num(1), 1), entry(num(2), 1), entry(text("a"), 1), entry(text("a"), 2)), false},
		"two in between":               {shelf(), false},
		"several":                      {register(), false},
	} {
		if got := impl.IndexOnce(c.x); got != c.want {
			t.Errorf("%s: IndexOnce of %v is %v", what, c.x, got)
		}
	}
}

func TestIndexMemory(t *testing.T) {
	mark := entry(text("mark"), 77)
	list := rightEntries()
	for _, what := range []string{"17 entries", "by their Ids", "the same twice at 2", "the Id 61 at 4", "a value alone that is not ok 0"} {
		x, there := wrongEntries()[what]
		if !there {
			t.Fatalf("there is no %q", what)
		}
		list[what] = x
	}
	some := append(register(), entry(num(4), 9), entry(text("zzzz"), 60), entry(none, 1), entry(none, 0), entry(num(1000), 4), entry(num(3), 61))
	for what, x := range list {
		g := guard(x, mark)
		for _, e := range some {
			// Those that are answered as they were among them.
			with, _ := impl.IndexPut(g.list, e)
			less, _ := impl.IndexOff(g.list, e)
			checkApart(t, what+": IndexPut and IndexOff", []part{partOf(with, entry(none, -7)), partOf(less, entry(none, -7))})
			g.check(t, what+": IndexPut and IndexOff")
			checkApart(t, what+": IndexFind and IndexSpan", []part{partOf(impl.IndexFind(g.list, e.Val), -7), partOf(impl.IndexSpan(g.list, none, e.Val), -7), partOf(impl.IndexSpan(g.list, e.Val, num(5)), -7)})
		}
		impl.IndexOk(g.list)
		impl.IndexOnce(g.list)
		g.check(t, what)
	}
	tables := rightTables()
	tables["inventory"] = inventory()
	for what, x := range tables {
		g := guardTable(x)
		for _, name := range append(colNames(impl.TableShape(x)), "zz") {
			checkApart(t, what+": IndexOf", []part{partOf(impl.IndexOf(g.table, name), entry(none, -7)), partOf(impl.IndexOf(g.table, name), entry(none, -7))})
		}
		g.check(t, what+": IndexOf")
	}
}

// What was answered stays as it was when an argument is turned behind it, its spare room included.
func TestIndexAnswersStay(t *testing.T) {
	for _, n := range ids(0, 1, 5, 15, 16) {
		for _, e := range append(register(), entry(num(400), 9), entry(none, 0), entry(none, 1)) {
			x := slices.Grow(slices.Clone(register()[:n]), 8)
			with, _ := impl.IndexPut(x, e)
			less, _ := impl.IndexOff(x, e)
			found, span := impl.IndexFind(x, e.Val), impl.IndexSpan(x, none, e.Val)
			was := fmt.Sprint(with, less, found, span)
			scribble(x, entry(text("wipe"), -7))
			if now := fmt.Sprint(with, less, found, span); now != was {
				t.Errorf("with %v answers were %s, and are %s", e, was, now)
			}
		}
	}
	x := rich()
	got := impl.IndexOf(x, "d")
	was := fmt.Sprint(got)
	for _, p := range tableParts(x) {
		p.wipe()
	}
	if now := fmt.Sprint(got); now != was {
		t.Errorf("IndexOf answered %s, and that is %s", was, now)
	}
}
