package tests

import (
	"math"
	"regexp"
	"slices"
	"strings"
	"testing"

	"loop.example/custumal/impl"
)

var nameText = regexp.MustCompile(`\A[a-z]{1,3}\z`)

func numCol(name string) impl.Col { return impl.Col{Name: name, Kind: impl.KindNum} }

func textCol(name string) impl.Col { return impl.Col{Name: name, Kind: impl.KindText} }

func add(c impl.Col) impl.Change { return impl.Change{Kind: impl.ChangeAdd, Col: c} }

func drop(name string) impl.Change { return impl.Change{Kind: impl.ChangeDrop, Name: name} }

func rename(name string, to string) impl.Change {
	return impl.Change{Kind: impl.ChangeName, Name: name, New: to}
}

func retype(name string, kind int) impl.Change {
	return impl.Change{Kind: impl.ChangeKind, Name: name, Col: impl.Col{Kind: kind}}
}

// colsOf is that many columns a, b, c .. of numbers.
func colsOf(n int) []impl.Col {
	var s []impl.Col
	for i := range n {
		s = append(s, numCol(string(rune('a'+i))))
	}
	return s
}

// three is columns of which each has something of its own.
func three() []impl.Col {
	return []impl.Col{
		{Name: "a", Kind: impl.KindNum, Need: true, Def: num(7)},
		{Name: "bb", Kind: impl.KindText, Def: text("x")},
		{Name: "ccc", Kind: impl.KindNum, Once: true},
	}
}

func rightCols() []impl.Col {
	return []impl.Col{
		numCol("a"), textCol("z"), numCol("ab"), textCol("abc"), numCol("zzz"), numCol("no"),
		{Name: "a", Kind: impl.KindNum, Need: true},
		{Name: "a", Kind: impl.KindNum, Once: true},
		{Name: "a", Kind: impl.KindText, Need: true, Once: true},
		{Name: "a", Kind: impl.KindNum, Def: num(0)},
		{Name: "a", Kind: impl.KindNum, Def: num(999)},
		{Name: "a", Kind: impl.KindNum, Need: true, Def: num(-999)},
		{Name: "a", Kind: impl.KindText, Def: text("")},
		{Name: "a", Kind: impl.KindText, Need: true, Def: text("abcd")},
	}
}

// wrongCols are not ok, each for a reason of its own.
func wrongCols() []impl.Col {
	list := []impl.Col{
		{},
		{Name: "a"}, {Name: "a", Kind: 3}, {Name: "a", Kind: -1}, {Name: "a", Kind: math.MaxInt}, {Name: "a", Kind: math.MinInt},
		{Name: "a", Kind: impl.KindNum, Def: text("x")},
		{Name: "a", Kind: impl.KindNum, Def: text("")},
		{Name: "a", Kind: impl.KindText, Def: num(0)},
		{Name: "a", Kind: impl.KindNum, Once: true, Def: num(0)},
		{Name: "a", Kind: impl.KindText, Once: true, Def: text("")},
		{Name: "a", Kind: impl.KindNum, Need: true, Once: true, Def: num(1)},
		{Name: "a", Kind: 3, Def: impl.Val{Kind: 3}},
	}
	for _, name := range []string{"", "abcd", "aaaaaaaa", "A", "aB", "1", "a1", "-", "a-", "a b", " ", "a ", " a", "'", "é", "aé", "ß", "a\xff", "\xff", "\x00", "a\n", "`", "{"} {
		list = append(list, numCol(name))
	}
	for _, v := range wrongVals() {
		list = append(list, impl.Col{Name: "a", Kind: impl.KindNum, Def: v}, impl.Col{Name: "a", Kind: impl.KindText, Def: v})
	}
	return list
}

// wrongShapes are columns that are not ok.
func wrongShapes() [][]impl.Col {
	list := [][]impl.Col{
		nil, {}, colsOf(6), colsOf(7), colsOf(26),
		{numCol("a"), numCol("a")},
		{numCol("a"), textCol("a")},
		{numCol("a"), numCol("b"), {Name: "a", Kind: impl.KindNum, Need: true}},
		{numCol("a"), numCol("b"), numCol("c"), numCol("d"), numCol("d")},
	}
	for _, c := range wrongCols() {
		list = append(list, []impl.Col{c}, []impl.Col{numCol("x"), c}, []impl.Col{c, numCol("x")}, []impl.Col{numCol("x"), c, numCol("y")})
	}
	return list
}

func TestShapeBounds(t *testing.T) {
	if impl.ChangeAdd != 1 || impl.ChangeDrop != 2 || impl.ChangeName != 3 || impl.ChangeKind != 4 || impl.ColMost != 5 || impl.NameMost != 3 {
		t.Error("a constant is another one than the document's")
	}
}

func TestColOk(t *testing.T) {
	for _, c := range rightCols() {
		if !impl.ColOk(c) {
			t.Errorf("ColOk(%#v) is false", c)
		}
	}
	for _, c := range wrongCols() {
		if impl.ColOk(c) {
			t.Errorf("ColOk(%#v) is true", c)
		}
	}
}

func TestColOkEveryShortName(t *testing.T) {
	everyText([]string{"a", "m", "z", "A", "0", "-", "\xff"}, 4, func(name string) {
		if got, want := impl.ColOk(numCol(name)), nameText.MatchString(name); got != want {
			t.Errorf("ColOk of the name %q is %v", name, got)
		}
	})
	for b := range 256 {
		one := string([]byte{byte(b)})
		for _, name := range []string{one, "a" + one, one + "a", "a" + one + "b"} {
			if got, want := impl.ColOk(textCol(name)), nameText.MatchString(name); got != want {
				t.Errorf("ColOk of the name %q is %v", name, got)
			}
		}
	}
}

func TestShapeOk(t *testing.T) {
	for _, s := range [][]impl.Col{colsOf(1), colsOf(2), colsOf(4), colsOf(5), three()} {
		if !impl.ShapeOk(s) {
			t.Errorf("ShapeOk(%#v) is false", s)
		}
	}
	for _, c := range rightCols() {
		if !impl.ShapeOk([]impl.Col{numCol("x"), c, textCol("y")}) {
			t.Errorf("ShapeOk is false with %#v", c)
		}
	}
	for _, s := range wrongShapes() {
		if impl.ShapeOk(s) {
			t.Errorf("ShapeOk(%#v) is true", s)
		}
	}
}

func TestShapeSame(t *testing.T) {
	all := append(wrongShapes(), colsOf(1), colsOf(2), colsOf(5), three(), three()[:2], three()[1:])
	for _, edit := range []func(c *impl.Col){
		func(c *impl.Col) { c.Name = "q" },
		func(c *impl.Col) { c.Kind = 3 - c.Kind },
		func(c *impl.Col) { c.Need = !c.Need },
		func(c *impl.Col) { c.Once = !c.Once },
		func(c *impl.Col) { c.Def.Kind++ },
		func(c *impl.Col) { c.Def.N++ },
		func(c *impl.Col) { c.Def.Text += "a" },
	} {
		for i := range three() {
			s := three()
			edit(&s[i])
			if impl.ShapeSame(s, three()) || impl.ShapeSame(three(), s) {
				t.Errorf("%#v is the same as %#v", s, three())
			}
			all = append(all, s)
		}
	}
	for _, s := range all {
		if !impl.ShapeSame(s, slices.Clone(s)) {
			t.Errorf("%#v is not the same as itself", s)
		}
		if longer := append(slices.Clone(s), impl.Col{}); impl.ShapeSame(s, longer) || impl.ShapeSame(longer, s) {
			t.Errorf("%#v is the same with one column more", s)
		}
	}
	if !impl.ShapeSame(nil, []impl.Col{}) || !impl.ShapeSame([]impl.Col{}, nil) {
		t.Error("no columns are not the same as no columns")
	}
	if two := colsOf(2); impl.ShapeSame(two, []impl.Col{two[1], two[0]}) {
		t.Error("columns in another order are the same")
	}
}

func TestShapeAt(t *testing.T) {
	for i, name := range []string{"a", "bb", "ccc"} {
		if got := impl.ShapeAt(three(), name); got != i {
			t.Errorf("ShapeAt(%q) is %d", name, got)
		}
	}
	for n := 1; n <= 5; n++ {
		for i := range 6 {
			want := i
			if i >= n {
				want = -1
			}
			if got := impl.ShapeAt(colsOf(n), string(rune('a'+i))); got != want {
				t.Errorf("ShapeAt of the column %d among %d is %d", i, n, got)
			}
		}
	}
	for _, name := range []string{"", "b", "c", "cc", "cccc", "A", "bb ", "\xff"} {
		if got := impl.ShapeAt(three(), name); got != -1 {
			t.Errorf("ShapeAt(%q) is %d", name, got)
		}
	}
	for _, s := range wrongShapes() {
		for _, name := range []string{"a", "b", "x", "y", ""} {
			if got := impl.ShapeAt(s, name); got != -1 {
				t.Errorf("ShapeAt(%#v, %q) is %d", s, name, got)
			}
		}
		for _, c := range s {
			if got := impl.ShapeAt(s, c.Name); got != -1 {
				t.Errorf("ShapeAt(%#v, %q) is %d", s, c.Name, got)
			}
		}
	}
}

// Each Kind of change, done to columns and to a row of them.
func TestDoEachKind(t *testing.T) {
	row := []impl.Val{num(5), text("12"), num(3)}
	a, b, c := three()[0], three()[1], three()[2]
	for _, x := range []struct {
		change impl.Change
		cols   []impl.Col
		vals   []impl.Val
	}{
		{add(textCol("d")), []impl.Col{a, b, c, textCol("d")}, []impl.Val{row[0], row[1], row[2], none}},
		{add(impl.Col{Name: "d", Kind: impl.KindNum, Need: true, Def: num(0)}), []impl.Col{a, b, c, {Name: "d", Kind: impl.KindNum, Need: true, Def: num(0)}}, []impl.Val{row[0], row[1], row[2], num(0)}},
		{add(impl.Col{Name: "d", Kind: impl.KindText, Need: true, Def: text("")}), []impl.Col{a, b, c, {Name: "d", Kind: impl.KindText, Need: true, Def: text("")}}, []impl.Val{row[0], row[1], row[2], text("")}},
		{add(impl.Col{Name: "d", Kind: impl.KindText, Once: true}), []impl.Col{a, b, c, {Name: "d", Kind: impl.KindText, Once: true}}, []impl.Val{row[0], row[1], row[2], none}},
		{drop("a"), []impl.Col{b, c}, []impl.Val{row[1], row[2]}},
		{drop("bb"), []impl.Col{a, c}, []impl.Val{row[0], row[2]}},
		{drop("ccc"), []impl.Col{a, b}, []impl.Val{row[0], row[1]}},
		{rename("a", "z"), []impl.Col{{Name: "z", Kind: impl.KindNum, Need: true, Def: num(7)}, b, c}, row},
		{rename("ccc", "xyz"), []impl.Col{a, b, {Name: "xyz", Kind: impl.KindNum, Once: true}}, row},
		{rename("bb", "bb"), three(), row},
		{retype("a", impl.KindText), []impl.Col{{Name: "a", Kind: impl.KindText, Need: true, Def: text("7")}, b, c}, []impl.Val{text("5"), row[1], row[2]}},
		{retype("bb", impl.KindNum), []impl.Col{a, numCol("bb"), c}, []impl.Val{row[0], num(12), row[2]}},
		{retype("ccc", impl.KindText), []impl.Col{a, b, {Name: "ccc", Kind: impl.KindText, Once: true}}, []impl.Val{row[0], row[1], text("3")}},
	} {
		if got, ok := impl.ShapeDo(three(), x.change); !ok || !slices.Equal(got, x.cols) {
			t.Errorf("ShapeDo(%#v) is %#v, %v", x.change, got, ok)
		}
		if got := impl.RowDo(three(), x.change, row); !slices.Equal(got, x.vals) {
			t.Errorf("RowDo(%#v) is %#v", x.change, got)
		}
	}
}

func TestDoEdges(t *testing.T) {
	if got, ok := impl.ShapeDo(colsOf(4), add(numCol("e"))); !ok || !slices.Equal(got, colsOf(5)) {
		t.Errorf("a fifth column: %#v, %v", got, ok)
	}
	if got, ok := impl.ShapeDo(colsOf(2), drop("b")); !ok || !slices.Equal(got, colsOf(1)) {
		t.Errorf("all but one column dropped: %#v, %v", got, ok)
	}
	// A column with Need keeps it where its Def becomes nothing.
	s := []impl.Col{{Name: "a", Kind: impl.KindText, Need: true, Def: text("x")}}
	want := []impl.Col{{Name: "a", Kind: impl.KindNum, Need: true}}
	if got, ok := impl.ShapeDo(s, retype("a", impl.KindNum)); !ok || !slices.Equal(got, want) {
		t.Errorf("a Def that is no number: %#v, %v", got, ok)
	}
	if got := impl.RowDo(s, retype("a", impl.KindNum), []impl.Val{text("007")}); !slices.Equal(got, []impl.Val{none}) {
		t.Errorf("a value that is no number: %#v", got)
	}
	// A name is free again behind the change that takes it away.
	list := []impl.Change{drop("a"), rename("b", "a"), add(textCol("b"))}
	if got, ok := impl.ShapeAll(colsOf(2), list); !ok || !slices.Equal(got, []impl.Col{numCol("a"), textCol("b")}) {
		t.Errorf("ShapeAll(%#v) is %#v, %v", list, got, ok)
	}
	if got := impl.RowAll(colsOf(2), list, []impl.Val{num(1), num(2)}); !slices.Equal(got, []impl.Val{num(2), none}) {
		t.Errorf("RowAll(%#v) is %#v", list, got)
	}
}

// wrongChanges can not be done to three(), each for a reason of its own.
func wrongChanges() []impl.Change {
	list := []impl.Change{
		{}, {Kind: 5, Name: "a"}, {Kind: -1, Name: "a"}, {Kind: 9, Name: "a", New: "z"}, {Kind: math.MinInt, Name: "a"}, {Kind: math.MaxInt, Col: numCol("d")}, {Name: "a"}, {Col: numCol("d")},
		add(numCol("a")), add(numCol("ccc")), add(textCol("bb")),
		add(impl.Col{Name: "d", Kind: impl.KindNum, Need: true}), add(impl.Col{Name: "d", Kind: impl.KindText, Need: true, Once: true}),
		add(impl.Col{Name: "d", Kind: impl.KindNum, Once: true, Def: num(1)}),
		drop(""), drop("q"), drop("b"), drop("A"), drop("abcd"),
		rename("q", "z"), rename("", "z"), rename("q", "q"), rename("a", "bb"), rename("ccc", "a"), rename("a", ""), rename("a", "abcd"), rename("a", "A"), rename("a", "z1"), rename("a", "\xff"),
		retype("q", impl.KindNum), retype("", impl.KindText), retype("a", impl.KindNum), retype("bb", impl.KindText), retype("ccc", impl.KindNum),
		retype("a", impl.KindNone), retype("a", 3), retype("a", -1), retype("a", math.MaxInt),
	}
	for _, c := range wrongCols() {
		if c.Name == "a" {
			c.Name = "d"
		}
		list = append(list, add(c))
	}
	return append(list, overtoldChanges()...)
}

// overtoldChanges could be done to three(), but for one part that their Kind does not name.
func overtoldChanges() []impl.Change {
	parts := map[string]func(c *impl.Change){
		"Name":         func(c *impl.Change) { c.Name = "a" },
		"New":          func(c *impl.Change) { c.New = "z" },
		"Col.Name":     func(c *impl.Change) { c.Col.Name = "z" },
		"Col.Kind":     func(c *impl.Change) { c.Col.Kind = impl.KindText },
		"Col.Need":     func(c *impl.Change) { c.Col.Need = true },
		"Col.Once":     func(c *impl.Change) { c.Col.Once = true },
		"Col.Def.Kind": func(c *impl.Change) { c.Col.Def.Kind = impl.KindText },
		"Col.Def.N":    func(c *impl.Change) { c.Col.Def.N = 1 },
		"Col.Def.Text": func(c *impl.Change) { c.Col.Def.Text = "x" },
	}
	var list []impl.Change
	for _, x := range []struct {
		change impl.Change
		named  string
	}{
		{add(textCol("d")), "Col"},
		{drop("a"), "Name"},
		{rename("a", "z"), "Name New"},
		{retype("a", impl.KindText), "Name Col.Kind"},
	} {
		for part, tell := range parts {
			if slices.Contains(strings.Fields(x.named), part) || x.named == "Col" && strings.HasPrefix(part, "Col.") {
				continue
			}
			c := x.change
			tell(&c)
			list = append(list, c)
		}
	}
	return list
}

func TestDoWrongChanges(t *testing.T) {
	row := []impl.Val{num(5), text("12"), none}
	for _, c := range wrongChanges() {
		if got, ok := impl.ShapeDo(three(), c); ok || !slices.Equal(got, three()) {
			t.Errorf("ShapeDo(%#v) is %#v, %v", c, got, ok)
		}
		if got := impl.RowDo(three(), c, row); len(got) != 0 {
			t.Errorf("RowDo(%#v) is %#v", c, got)
		}
		for _, list := range [][]impl.Change{{c}, {c, drop("bb")}, {rename("bb", "bb"), c}, {rename("bb", "bb"), c, drop("bb")}} {
			if got, ok := impl.ShapeAll(three(), list); ok || len(got) != 0 {
				t.Errorf("ShapeAll(%#v) is %#v, %v", list, got, ok)
			}
			if got := impl.RowAll(three(), list, row); len(got) != 0 {
				t.Errorf("RowAll(%#v) is %#v", list, got)
			}
		}
	}
}

func TestDoAtTheBounds(t *testing.T) {
	for _, c := range []impl.Change{add(numCol("f")), add(textCol("zzz"))} {
		if got, ok := impl.ShapeDo(colsOf(5), c); ok || !slices.Equal(got, colsOf(5)) {
			t.Errorf("a sixth column: %#v, %v", got, ok)
		}
		if got := impl.RowDo(colsOf(5), c, make([]impl.Val, 5)); len(got) != 0 {
			t.Errorf("a sixth value: %#v", got)
		}
	}
	if got, ok := impl.ShapeDo(colsOf(1), drop("a")); ok || !slices.Equal(got, colsOf(1)) {
		t.Errorf("the last column dropped: %#v, %v", got, ok)
	}
	if got := impl.RowDo(colsOf(1), drop("a"), []impl.Val{num(1)}); len(got) != 0 {
		t.Errorf("the last value dropped: %#v", got)
	}
}

// Of columns that are not ok each function has an answer of its own, whatever else it is given.
func TestWrongShapes(t *testing.T) {
	for _, s := range wrongShapes() {
		row := make([]impl.Val, len(s))
		for i, c := range s {
			row[i] = impl.ValAs(num(1), c.Kind)
		}
		if impl.RowOk(s, row) || impl.RowOk(s, nil) {
			t.Errorf("RowOk(%#v) is true", s)
		}
		if got, ok := impl.ShapeAll(s, nil); ok || len(got) != 0 {
			t.Errorf("ShapeAll(%#v) is %#v, %v", s, got, ok)
		}
		if got := impl.RowAll(s, nil, row); len(got) != 0 {
			t.Errorf("RowAll(%#v) is %#v", s, got)
		}
		changes := []impl.Change{{}, add(numCol("q")), drop("a"), drop("x"), drop("f"), rename("a", "q"), rename("x", "x"), retype("a", impl.KindText), retype("x", impl.KindText)}
		if len(s) > 0 {
			changes = append(changes, drop(s[len(s)-1].Name), rename(s[len(s)-1].Name, "q"))
		}
		for _, c := range changes {
			if got, ok := impl.ShapeDo(s, c); ok || len(got) != 0 {
				t.Errorf("ShapeDo(%#v, %#v) is %#v, %v", s, c, got, ok)
			}
			if got := impl.RowDo(s, c, row); len(got) != 0 {
				t.Errorf("RowDo(%#v, %#v) is %#v", s, c, got)
			}
			if got, ok := impl.ShapeAll(s, []impl.Change{c}); ok || len(got) != 0 {
				t.Errorf("ShapeAll(%#v, %#v) is %#v, %v", s, c, got, ok)
			}
			if got := impl.RowAll(s, []impl.Change{c}, row); len(got) != 0 {
				t.Errorf("RowAll(%#v, %#v) is %#v", s, c, got)
			}
		}
	}
}

func TestRowOk(t *testing.T) {
	for _, row := range [][]impl.Val{
		{num(5), text("12"), none}, {num(-999), text(""), num(999)}, {num(0), none, num(0)}, {num(1), text("abcd"), num(1)},
	} {
		if !impl.RowOk(three(), row) {
			t.Errorf("RowOk(%#v) is false", row)
		}
	}
	wrong := [][]impl.Val{
		nil, {}, {num(5)}, {num(5), text("x")}, {num(5), text("x"), num(1), none}, {num(5), text("x"), num(1), num(1), num(1), num(1)},
		{none, text("x"), num(1)}, {none, none, none},
		{text("5"), text("x"), num(1)}, {num(5), num(5), num(1)}, {num(5), text("x"), text("1")}, {text("x"), num(5), num(1)},
	}
	for _, v := range wrongVals() {
		wrong = append(wrong, []impl.Val{v, none, none}, []impl.Val{num(1), v, none}, []impl.Val{num(1), none, v})
	}
	for _, row := range wrong {
		if impl.RowOk(three(), row) {
			t.Errorf("RowOk(%#v) is true", row)
		}
	}
	if !impl.RowOk(colsOf(1), []impl.Val{none}) || !impl.RowOk(colsOf(5), make([]impl.Val, 5)) {
		t.Error("RowOk of one column or of five is false")
	}
}

func TestRowsOfOtherSizes(t *testing.T) {
	for n := 1; n <= 5; n++ {
		list := []impl.Change{rename("a", "z")}
		for size := range 8 {
			row := make([]impl.Val, size)
			want := 0
			if size == n {
				want = n
			}
			if got := impl.RowDo(colsOf(n), list[0], row); len(got) != want {
				t.Errorf("RowDo of %d values in %d columns has %d", size, n, len(got))
			}
			if got := impl.RowAll(colsOf(n), list, row); len(got) != want {
				t.Errorf("RowAll of %d values in %d columns has %d", size, n, len(got))
			}
			if got := impl.RowAll(colsOf(n), nil, row); len(got) != want {
				t.Errorf("RowAll of %d values in %d columns and no changes has %d", size, n, len(got))
			}
			if got := impl.RowOk(colsOf(n), row); got != (size == n) {
				t.Errorf("RowOk of %d values in %d columns is %v", size, n, got)
			}
		}
	}
}

// RowDo asks for as many values as columns, and for no more: what is not ok goes along, and is nothing where it is made of another Kind.
func TestRowDoOfWrongValues(t *testing.T) {
	for _, v := range append(wrongVals(), none, text("9"), num(9)) {
		row := []impl.Val{v, v, v}
		if got := impl.RowDo(three(), rename("a", "z"), row); !slices.Equal(got, row) {
			t.Errorf("RowDo of ChangeName of %#v is %#v", v, got)
		}
		if got := impl.RowDo(three(), drop("bb"), row); !slices.Equal(got, row[:2]) {
			t.Errorf("RowDo of ChangeDrop of %#v is %#v", v, got)
		}
		if got := impl.RowDo(three(), add(textCol("d")), row); !slices.Equal(got, []impl.Val{v, v, v, none}) {
			t.Errorf("RowDo of ChangeAdd of %#v is %#v", v, got)
		}
		want := []impl.Val{impl.ValAs(v, impl.KindText), v, v}
		if got := impl.RowDo(three(), retype("a", impl.KindText), row); !slices.Equal(got, want) {
			t.Errorf("RowDo of ChangeKind of %#v is %#v", v, got)
		}
		if got := impl.RowAll(three(), nil, row); !slices.Equal(got, row) {
			t.Errorf("RowAll of %#v and no changes is %#v", v, got)
		}
	}
}

// someChanges are enough that some can be done behind most others, and some can not.
func someChanges() []impl.Change {
	list := []impl.Change{
		add(numCol("a")), add(textCol("d")), add(impl.Col{Name: "e", Kind: impl.KindNum, Once: true}),
		add(impl.Col{Name: "f", Kind: impl.KindText, Need: true, Def: text("12")}), add(impl.Col{Name: "g", Kind: impl.KindNum, Need: true}),
		drop("a"), drop("bb"), drop("ccc"), drop("d"),
		rename("a", "bb"), rename("bb", "a"), rename("ccc", "ccc"), rename("d", "a"),
		{Kind: impl.ChangeDrop, Name: "a", New: "b"},
	}
	for _, name := range []string{"a", "bb", "ccc", "d", "f"} {
		list = append(list, retype(name, impl.KindNum), retype(name, impl.KindText))
	}
	return list
}

// Told anew from the document's words: columns and a row behind one change.
func modelDo(s []impl.Col, c impl.Change, row []impl.Val) ([]impl.Col, []impl.Val, bool) {
	var cols []impl.Col
	var vals []impl.Val
	names := map[string]int{}
	for i, col := range s {
		v := row[i]
		if c.Kind != impl.ChangeAdd && col.Name == c.Name {
			switch c.Kind {
			case impl.ChangeDrop:
				continue
			case impl.ChangeName:
				col.Name = c.New
			case impl.ChangeKind:
				if col.Kind == c.Col.Kind {
					return nil, nil, false
				}
				col.Kind, col.Def, v = c.Col.Kind, impl.ValAs(col.Def, c.Col.Kind), impl.ValAs(v, c.Col.Kind)
			}
		}
		names[col.Name]++
		cols, vals = append(cols, col), append(vals, v)
	}
	if c.Kind == impl.ChangeAdd {
		if c.Col.Need && c.Col.Def == none {
			return nil, nil, false
		}
		names[c.Col.Name]++
		cols, vals = append(cols, c.Col), append(vals, c.Col.Def)
	} else if !slices.ContainsFunc(s, func(col impl.Col) bool { return col.Name == c.Name }) {
		return nil, nil, false
	}
	if c.Kind == impl.ChangeDrop && c.New != "" || len(cols) < 1 || len(cols) > 5 || len(names) != len(cols) {
		return nil, nil, false
	}
	return cols, vals, true
}

// Promise 2: columns stay right, whatever is done to them; values go with them, however the changes are cut.
func TestPromise2ColumnsAndValues(t *testing.T) {
	starts := []struct {
		cols []impl.Col
		row  []impl.Val
	}{
		{three(), []impl.Val{num(5), text("12"), none}},
		{three(), []impl.Val{num(-999), text("x"), num(0)}},
		{[]impl.Col{{Name: "a", Kind: impl.KindText, Need: true, Def: text("-5")}}, []impl.Val{text("007")}},
		{colsOf(5), []impl.Val{num(1), num(2), num(3), num(4), num(5)}},
	}
	for _, x := range starts {
		// Each list of at most three of these changes, one grown out of the other.
		var grow func(list []impl.Change, cols []impl.Col, row []impl.Val, ok bool, left int)
		grow = func(list []impl.Change, cols []impl.Col, row []impl.Val, ok bool, left int) {
			checkAll(t, x.cols, x.row, list, cols, row, ok)
			if left == 0 || !ok {
				return
			}
			for _, c := range someChanges() {
				next, vals, can := modelDo(cols, c, row)
				checkOne(t, cols, c, row, next, vals, can)
				grow(append(slices.Clone(list), c), next, vals, can, left-1)
			}
		}
		grow(nil, x.cols, x.row, true, 3)
	}
}

func checkOne(t *testing.T, cols []impl.Col, c impl.Change, row []impl.Val, next []impl.Col, vals []impl.Val, can bool) {
	t.Helper()
	got, ok := impl.ShapeDo(cols, c)
	if !impl.ShapeOk(got) {
		t.Errorf("ShapeDo(%#v, %#v) is %#v, which is not ok", cols, c, got)
	}
	if !can {
		next = cols
	}
	if ok != can || !slices.Equal(got, next) {
		t.Errorf("ShapeDo(%#v, %#v) is %#v, %v", cols, c, got, ok)
	}
	if v := impl.RowDo(cols, c, row); !slices.Equal(v, vals) {
		t.Errorf("RowDo(%#v, %#v, %#v) is %#v", cols, c, row, v)
	}
}

// checkAll does the list at once, and in two parts, cut at each place.
func checkAll(t *testing.T, s []impl.Col, r []impl.Val, list []impl.Change, cols []impl.Col, row []impl.Val, can bool) {
	t.Helper()
	got, ok := impl.ShapeAll(s, list)
	vals := impl.RowAll(s, list, r)
	if ok != can || !slices.Equal(got, cols) || !slices.Equal(vals, row) {
		t.Errorf("%#v behind %#v is %#v, %v, and the row %#v is %#v", s, list, got, ok, r, vals)
	}
	for cut := range len(list) + 1 {
		half, ok := impl.ShapeAll(s, list[:cut])
		whole, ok2 := impl.ShapeAll(half, list[cut:])
		if (ok && ok2) != can || !slices.Equal(whole, cols) {
			t.Errorf("%#v behind %#v, cut at %d, is %#v", s, list, cut, whole)
		}
		if v := impl.RowAll(half, list[cut:], impl.RowAll(s, list[:cut], r)); !slices.Equal(v, row) {
			t.Errorf("the row %#v behind %#v, cut at %d, is %#v", r, list, cut, v)
		}
	}
}

// A list of changes has no bound of its own here.
func TestAllOfManyChanges(t *testing.T) {
	var list []impl.Change
	for range 500 {
		list = append(list, rename("a", "z"), retype("z", impl.KindText), add(textCol("q")), drop("q"), retype("z", impl.KindNum), rename("z", "a"))
	}
	if got, ok := impl.ShapeAll(three(), list); !ok || !slices.Equal(got, three()) {
		t.Errorf("ShapeAll is %#v, %v", got, ok)
	}
	row := []impl.Val{num(-5), text("x"), none}
	if got := impl.RowAll(three(), list, row); !slices.Equal(got, row) {
		t.Errorf("RowAll is %#v", got)
	}
}

func TestShapeMemory(t *testing.T) {
	colMark, valMark := textCol("m"), text("mark")
	changes := append(someChanges(), wrongChanges()...)
	for _, s := range [][]impl.Col{three(), colsOf(1), colsOf(5), {{}}, colsOf(6)} {
		row := make([]impl.Val, len(s))
		for i := range row {
			row[i] = num(i)
		}
		for _, c := range changes {
			for _, list := range [][]impl.Change{nil, {c}, {rename("a", "a"), c}, {c, rename("a", "a")}} {
				g, r, l := guard(s, colMark), guard(row, valMark), guard(list, drop("m"))
				check := func(what string) {
					t.Helper()
					g.check(t, what)
					r.check(t, what)
					l.check(t, what)
				}
				impl.ShapeOk(g.list)
				impl.ShapeAt(g.list, "a")
				impl.ShapeSame(g.list, g.list)
				impl.RowOk(g.list, r.list)
				check("asked")
				one, _ := impl.ShapeDo(g.list, c)
				all, _ := impl.ShapeAll(g.list, l.list)
				check("columns")
				again := slices.Clone(all)
				scribble(one, impl.Col{})
				check("ShapeDo's answer")
				if !slices.Equal(all, again) {
					t.Error("ShapeDo's answer and ShapeAll's share memory")
				}
				scribble(all, impl.Col{})
				check("ShapeAll's answer")
				vals, rest := impl.RowDo(g.list, c, r.list), impl.RowAll(g.list, l.list, r.list)
				check("rows")
				kept := slices.Clone(rest)
				scribble(vals, num(77))
				check("RowDo's answer")
				if !slices.Equal(rest, kept) {
					t.Error("RowDo's answer and RowAll's share memory")
				}
				scribble(rest, num(77))
				check("RowAll's answer")
			}
		}
	}
}
