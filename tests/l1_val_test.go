package tests

import (
	"math"
	"regexp"
	"strconv"
	"testing"

	"loop.example/custumal/impl"
)

func num(n int) impl.Val { return impl.Val{Kind: impl.KindNum, N: n} }

func text(s string) impl.Val { return impl.Val{Kind: impl.KindText, Text: s} }

var none = impl.Val{}

// Written anew from the document's words, so that the program is not held against itself.
var (
	decimals = regexp.MustCompile(`\A(0|-?[1-9][0-9]{0,2})\z`)
	signs    = regexp.MustCompile(`\A[a-z0-9-]{0,4}\z`)
	written  = regexp.MustCompile(`\A(none|0|-?[1-9][0-9]{0,2}|'[a-z0-9-]{0,4}')\z`)
)

// everyText calls f with each text of at most size of these parts.
func everyText(parts []string, size int, f func(s string)) {
	var grow func(s string, left int)
	grow = func(s string, left int) {
		f(s)
		if left == 0 {
			return
		}
		for _, p := range parts {
			grow(s+p, left-1)
		}
	}
	grow("", size)
}

// wrongVals are not ok, each for a reason of its own.
func wrongVals() []impl.Val {
	list := []impl.Val{
		{Kind: -1}, {Kind: 3}, {Kind: math.MinInt}, {Kind: math.MaxInt},
		{Kind: 3, N: 5}, {Kind: -1, Text: "a"},
		{N: 1}, {N: -1}, {Text: "a"}, {Text: "none"},
		num(1000), num(-1000), num(math.MinInt), num(math.MaxInt),
		{Kind: impl.KindNum, N: 5, Text: "5"}, {Kind: impl.KindNum, Text: "a"},
		{Kind: impl.KindText, N: 1}, {Kind: impl.KindText, N: -1, Text: "a"}, {Kind: impl.KindText, N: 5, Text: "5"},
	}
	for _, s := range []string{
		"abcde", "12345", "-----", "-1000", "A", "Z", "aB", " ", "a ", " a", "'", "''", "a'b", "a.b", "+1", "_", "`", "{", "/", ":", "\n", "a\n", "\x00",
		"é", "ß", "\u0661", "\u2212", "\uff41", "\ufffd", "\x80", "\xff", "a\xff", "\xc3", "\xed\xa0\x80", "a\xc0\xad",
	} {
		list = append(list, text(s))
	}
	return list
}

// rightVals are ok, the edges of each Kind among them.
func rightVals() []impl.Val {
	list := []impl.Val{none}
	for n := -impl.NumMost; n <= impl.NumMost; n++ {
		list = append(list, num(n))
	}
	for _, s := range []string{"", "a", "z", "az", "abcd", "0", "9", "00", "007", "0000", "9999", "-", "--", "----", "-0", "-5", "-05", "-999", "5", "999", "1000", "none", "a-1", "x9-y", "num", "1-"} {
		list = append(list, text(s))
	}
	return list
}

func TestValBounds(t *testing.T) {
	if impl.KindNone != 0 || impl.KindNum != 1 || impl.KindText != 2 || impl.NumMost != 999 || impl.TextMost != 4 {
		t.Error("a constant is another one than the document's")
	}
}

func TestValOkRight(t *testing.T) {
	for _, v := range rightVals() {
		if !impl.ValOk(v) {
			t.Errorf("ValOk(%#v) is false", v)
		}
	}
}

func TestValOkWrong(t *testing.T) {
	for _, v := range wrongVals() {
		if impl.ValOk(v) {
			t.Errorf("ValOk(%#v) is true", v)
		}
	}
}

func TestValOkEveryByte(t *testing.T) {
	for b := 0; b < 256; b++ {
		one := string([]byte{byte(b)})
		for _, s := range []string{one, one + "abc", "abc" + one, "a" + one + "b"} {
			if got, want := impl.ValOk(text(s)), signs.MatchString(s); got != want {
				t.Errorf("ValOk(text %q) is %v", s, got)
			}
		}
	}
}

func TestValTextOrdinaryAndEdges(t *testing.T) {
	for _, c := range []struct {
		v    impl.Val
		want string
	}{
		{none, "none"},
		{num(0), "0"}, {num(7), "7"}, {num(-7), "-7"}, {num(10), "10"}, {num(999), "999"}, {num(-999), "-999"},
		{text(""), "''"}, {text("abc"), "'abc'"}, {text("abcd"), "'abcd'"}, {text("none"), "'none'"},
		{text("-"), "'-'"}, {text("-0"), "'-0'"}, {text("00"), "'00'"}, {text("007"), "'007'"}, {text("-5"), "'-5'"},
	} {
		if got := impl.ValText(c.v); got != c.want {
			t.Errorf("ValText(%#v) is %q, not %q", c.v, got, c.want)
		}
		if got, ok := impl.ValRead(c.want); !ok || got != c.v {
			t.Errorf("ValRead(%q) is %#v, %v", c.want, got, ok)
		}
	}
}

func TestValTextWrong(t *testing.T) {
	for _, v := range wrongVals() {
		if got := impl.ValText(v); got != "" {
			t.Errorf("ValText(%#v) is %q", v, got)
		}
	}
}

// Promise 1, its first half.
func TestPromise1ReadAsItWas(t *testing.T) {
	seen := map[string]impl.Val{}
	for _, v := range rightVals() {
		s := impl.ValText(v)
		if w, ok := seen[s]; ok {
			t.Errorf("%#v and %#v have one text %q", v, w, s)
		}
		seen[s] = v
		if got, ok := impl.ValRead(s); !ok || got != v {
			t.Errorf("ValRead(ValText(%#v)) is %#v, %v", v, got, ok)
		}
	}
}

func TestPromise1ReadEveryRightText(t *testing.T) {
	everyText([]string{"a", "z", "0", "1", "9", "-"}, impl.TextMost, func(s string) {
		if got, ok := impl.ValRead("'" + s + "'"); !ok || got != text(s) {
			t.Errorf("ValRead of quoted %q is %#v, %v", s, got, ok)
		}
	})
}

// Promise 1, its second half.
func TestPromise1NumberBehindItsText(t *testing.T) {
	for n := -impl.NumMost; n <= impl.NumMost; n++ {
		s := impl.ValAs(num(n), impl.KindText)
		if s != text(strconv.Itoa(n)) {
			t.Errorf("ValAs(%d, KindText) is %#v", n, s)
		}
		if back := impl.ValAs(s, impl.KindNum); back != num(n) {
			t.Errorf("ValAs(%#v, KindNum) is %#v", s, back)
		}
	}
}

func TestValReadWrong(t *testing.T) {
	for _, s := range []string{
		"", " ", "-", "--", "-0", "+0", "+5", "00", "000", "007", "07", "-07", "-00", "1000", "-1000", "9999", "5-", "--5", "1-1", "1_0", "0x1", "1e1", "5.0", " 5", "5 ", "5\n", "\x00",
		"99999999999999999999", "-99999999999999999999", "18446744073709551621", "4294967301",
		"\u0665", "\u22125", "5\xff", "\xff",
		"'", "'a", "a'", "'''", "''''", "'a''", "''a'", "'a'b'", "''a", "a''", "'' ", " ''", "'abcde'", "'12345'", "'-----'", "'A'", "'a b'", "' '", "'a\n'", "'a'\n", "'é'", "'\xff'", "'\xc3\xa9'", "'\x00'", "\"a\"", "`a`",
		"a", "abc", "None", "NONE", "non", "nonee", "none ", " none", "none\n", "nothing", "nil", "'none", "none'", "num", "text",
	} {
		if got, ok := impl.ValRead(s); ok || got != none {
			t.Errorf("ValRead(%q) is %#v, %v", s, got, ok)
		}
	}
}

// A text is read just if it is written so: held against the document's words at each short text of the signs that matter.
func TestValReadEveryShortText(t *testing.T) {
	everyText([]string{"'", "-", "0", "1", "9", "a", "none", "A", "\xff"}, 5, func(s string) {
		got, ok := impl.ValRead(s)
		if want := written.MatchString(s); ok != want {
			t.Errorf("ValRead(%q) is %#v, %v", s, got, ok)
		}
		if ok && impl.ValText(got) != s || !ok && got != none {
			t.Errorf("ValRead(%q) is %#v, %v", s, got, ok)
		}
	})
}

func TestValAsTextToNumber(t *testing.T) {
	everyText([]string{"0", "1", "7", "9", "-", "a"}, impl.TextMost, func(s string) {
		want := none
		if decimals.MatchString(s) {
			n, _ := strconv.Atoi(s)
			want = num(n)
		}
		if got := impl.ValAs(text(s), impl.KindNum); got != want {
			t.Errorf("ValAs(text %q, KindNum) is %#v, not %#v", s, got, want)
		}
	})
}

func TestValAsEdges(t *testing.T) {
	for _, c := range []struct {
		s    string
		want impl.Val
	}{
		{"", none}, {"-", none}, {"-0", none}, {"00", none}, {"007", none}, {"-05", none}, {"none", none}, {"1000", none}, {"9999", none}, {"5-", none},
		{"0", num(0)}, {"-5", num(-5)}, {"5", num(5)}, {"999", num(999)}, {"-999", num(-999)},
	} {
		if got := impl.ValAs(text(c.s), impl.KindNum); got != c.want {
			t.Errorf("ValAs(text %q, KindNum) is %#v", c.s, got)
		}
	}
}

func TestValAsItself(t *testing.T) {
	for _, v := range rightVals() {
		if v.Kind == impl.KindNone {
			continue
		}
		if got := impl.ValAs(v, v.Kind); got != v {
			t.Errorf("ValAs(%#v) of its own kind is %#v", v, got)
		}
	}
}

func TestValAsNothing(t *testing.T) {
	for _, v := range rightVals() {
		for _, kind := range []int{impl.KindNone, -1, 3, math.MinInt, math.MaxInt} {
			if got := impl.ValAs(v, kind); got != none {
				t.Errorf("ValAs(%#v, %d) is %#v", v, kind, got)
			}
		}
	}
	for _, v := range append(wrongVals(), none) {
		for _, kind := range []int{impl.KindNone, impl.KindNum, impl.KindText, v.Kind, -1, 3} {
			if got := impl.ValAs(v, kind); got != none {
				t.Errorf("ValAs(%#v, %d) is %#v", v, kind, got)
			}
		}
	}
}

func TestValLessOrdinary(t *testing.T) {
	inOrder := []impl.Val{
		none,
		num(-999), num(-10), num(-9), num(-1), num(0), num(1), num(9), num(10), num(999),
		text(""), text("-"), text("-5"), text("0"), text("00"), text("10"), text("9"), text("a"), text("a-"), text("aa"), text("ab"), text("b"), text("zzzz"),
	}
	checkOrder(t, inOrder)
}

func TestValLessOfWrongValues(t *testing.T) {
	inOrder := []impl.Val{
		{Kind: math.MinInt, N: 9, Text: "z"}, {Kind: -1},
		{N: math.MinInt}, {N: -1, Text: "z"}, none, {Text: "a"}, {Text: "none"}, {N: 1},
		num(math.MinInt), num(-1000), num(5), {Kind: impl.KindNum, N: 5, Text: "a"}, num(6), num(1000), num(math.MaxInt),
		{Kind: impl.KindText, N: -1, Text: "z"}, text("\x00"), text("A"), text("a"), text("abcde"), text("abcdf"), text("é"), text("\xff"), {Kind: impl.KindText, N: 1},
		{Kind: 3}, {Kind: math.MaxInt, N: math.MinInt},
	}
	checkOrder(t, inOrder)
}

// checkOrder holds each two values of a list against their places.
func checkOrder(t *testing.T, inOrder []impl.Val) {
	t.Helper()
	for i, a := range inOrder {
		for j, b := range inOrder {
			if got := impl.ValLess(a, b); got != (i < j) {
				t.Errorf("ValLess(%#v, %#v) is %v", a, b, got)
			}
		}
	}
}
