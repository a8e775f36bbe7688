package impl

import (
	"cmp"
	"strconv"
	"strings"
)

// Val is nothing, a number, or a text.
type Val struct {
	Kind int
	N    int
	Text string
}

// Kinds of values, and bounds.
const (
	KindNone = 0
	KindNum  = 1
	KindText = 2
	NumMost  = 999
	TextMost = 4
)

const (
	noneWord  = "none"
	quoteMark = "'"
	minusMark = "-"
)

// value is a value as a type of its own kind, so that each kind says for itself what is right and how it is told.
type value interface {
	val() Val
	ok() bool
	text() string
	asNum() Val
	asText() Val
}

type noneValue struct{}

type numValue int

type textValue string

func (noneValue) val() Val     { return Val{} }
func (noneValue) ok() bool     { return true }
func (noneValue) text() string { return noneWord }
func (noneValue) asNum() Val   { return Val{} }
func (noneValue) asText() Val  { return Val{} }

func (n numValue) val() Val     { return Val{Kind: KindNum, N: int(n)} }
func (n numValue) ok() bool     { return -NumMost <= n && n <= NumMost }
func (n numValue) text() string { return strconv.Itoa(int(n)) }
func (n numValue) asNum() Val   { return n.val() }
func (n numValue) asText() Val  { return textValue(n.text()).val() }

func (s textValue) val() Val     { return Val{Kind: KindText, Text: string(s)} }
func (s textValue) text() string { return quoteMark + string(s) + quoteMark }
func (s textValue) asText() Val  { return s.val() }

func (s textValue) ok() bool {
	if len(s) > TextMost {
		return false
	}
	// Bytes that are not UTF-8 come as the replacement rune, which is no sign of a text either.
	for _, r := range string(s) {
		if !signOk(r) {
			return false
		}
	}
	return true
}

func (s textValue) asNum() Val {
	n, ok := readNumber(string(s))
	if !ok {
		return Val{}
	}
	return numValue(n).val()
}

// valueOf is a value as a type of its own kind, and whether it is right.
func valueOf(v Val) (value, bool) {
	var x value
	switch v.Kind {
	case KindNone:
		x = noneValue{}
	case KindNum:
		x = numValue(v.N)
	case KindText:
		x = textValue(v.Text)
	default:
		return noneValue{}, false
	}
	// What x does not keep of v must be nothing, and shows when x is turned back.
	return x, x.ok() && x.val() == v
}

// signOk says whether a rune may stand in a text.
func signOk(r rune) bool {
	return letterOk(r) || digitOk(r) || r == '-'
}

func letterOk(r rune) bool { return 'a' <= r && r <= 'z' }

func digitOk(r rune) bool { return '0' <= r && r <= '9' }

// readNumber reads the decimals of a number that is right.
func readNumber(text string) (int, bool) {
	digits, below := strings.CutPrefix(text, minusMark)
	n := 0
	for _, r := range digits {
		if !digitOk(r) {
			return 0, false
		}
		n = 10*n + int(r-'0')
		// Asked at each digit, so that a long text can not wrap n round.
		if n > NumMost {
			return 0, false
		}
	}
	if below {
		n = -n
	}
	// No digits, needless zeros and a nought below 0 are all written otherwise.
	if strconv.Itoa(n) != text {
		return 0, false
	}
	return n, true
}

// unquote is what stands between the two quotes of a text.
func unquote(text string) (string, bool) {
	rest, ahead := strings.CutPrefix(text, quoteMark)
	inner, behind := strings.CutSuffix(rest, quoteMark)
	return inner, ahead && behind
}

// compareVals is below 0, 0 or above 0, as a comes ahead of b, is b, or comes behind it.
func compareVals(a Val, b Val) int {
	return cmp.Or(cmp.Compare(a.Kind, b.Kind), cmp.Compare(a.N, b.N), cmp.Compare(a.Text, b.Text))
}

// ValOk says whether a value is right.
func ValOk(v Val) bool {
	_, ok := valueOf(v)
	return ok
}

// ValLess says whether a value comes ahead of another one.
func ValLess(a Val, b Val) bool { return compareVals(a, b) < 0 }

// ValText writes a value.
func ValText(v Val) string {
	x, ok := valueOf(v)
	if !ok {
		return ""
	}
	return x.text()
}

// ValRead reads a value.
func ValRead(text string) (Val, bool) {
	if text == noneWord {
		return Val{}, true
	}
	if inner, ok := unquote(text); ok && textValue(inner).ok() {
		return textValue(inner).val(), true
	}
	if n, ok := readNumber(text); ok {
		return numValue(n).val(), true
	}
	return Val{}, false
}

// ValAs is a value as one of another kind.
func ValAs(v Val, kind int) Val {
	x, ok := valueOf(v)
	if !ok {
		return Val{}
	}
	switch kind {
	case KindNum:
		return x.asNum()
	case KindText:
		return x.asText()
	}
	return Val{}
}
