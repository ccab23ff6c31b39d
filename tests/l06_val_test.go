package tests

import (
	"fmt"
	"math"
	"math/big"
	"math/rand"
	"strings"
	"testing"

	"loop.example/g00289/impl"
)

var valNone = impl.Val{}

func valNum(n int) impl.Val { return impl.Val{Kind: impl.VlNum, N: n} }

func valText(s string) impl.Val { return impl.Val{Kind: impl.VlText, S: s} }

func valLook(n int, s string) impl.Val { return impl.Val{Kind: impl.VlLook, N: n, S: s} }

func shownVal(v impl.Val) string { return fmt.Sprintf("{%d %d %.80q}", v.Kind, v.N, v.S) }

// noKinds are none of the four, also where only their low bits would be one.
var noKinds = []int{-1, -2, -3, 4, 5, 255, 256, 257, 258, 1<<32 + 1, 1<<32 + 3, math.MinInt, math.MinInt + 2, math.MaxInt}

// shownNum is DecText by fractions of any size.
func shownNum(n int) string {
	if n < -top || n > top {
		return ""
	}
	s := big.NewRat(int64(n), one).FloatString(6)
	return strings.TrimSuffix(strings.TrimRight(s, "0"), ".")
}

// byNum, byText, likeTrue and rightVal are the chapter's words once more, with
// numbers of texts and texts of numbers worked out by other means.
func byNum(v impl.Val) int {
	if v.Kind == impl.VlText {
		return exactNum(v.S).n
	}
	return map[int]int{impl.VlNum: v.N, impl.VlLook: v.N}[v.Kind]
}

func byText(v impl.Val) string {
	if v.Kind == impl.VlNum {
		return shownNum(v.N)
	}
	return v.S
}

func likeTrue(v impl.Val) bool {
	return map[int]bool{impl.VlNum: v.N != 0, impl.VlLook: v.N != 0, impl.VlText: len(v.S) > 0}[v.Kind]
}

func rightVal(v impl.Val) bool {
	number := exactNum(v.S)
	fits := map[int]bool{
		impl.VlNone: v == valNone,
		impl.VlNum:  v == valNum(v.N),
		impl.VlText: v == valText(v.S),
		impl.VlLook: number.lookLike && number.n == v.N,
	}
	return fits[v.Kind] && v.N >= -top && v.N <= top && len(v.S) <= 300
}

func orderOfTexts(a string, b string) int {
	for i := 0; i < len(a) && i < len(b); i++ {
		if a[i] != b[i] {
			return orderOfNumbers(int(a[i]), int(b[i]))
		}
	}
	return orderOfNumbers(len(a), len(b))
}

func orderOfNumbers(a int, b int) int {
	if a == b {
		return 0
	}
	if a < b {
		return -1
	}
	return 1
}

// checkVal holds all that is told of one value against the words above.
func checkVal(t *testing.T, v impl.Val) {
	t.Helper()
	if got := impl.ValOk(v); got != rightVal(v) {
		t.Errorf("ValOk(%s) = %v", shownVal(v), got)
	}
	if got, want := impl.ToNum(v), byNum(v); got != want {
		t.Errorf("ToNum(%s) = %d; want %d", shownVal(v), got, want)
	}
	if got, want := impl.ToText(v), byText(v); got != want {
		t.Errorf("ToText(%s) = %.80q; want %.80q", shownVal(v), got, want)
	}
	if got := impl.Truth(v); got != likeTrue(v) {
		t.Errorf("Truth(%s) = %v", shownVal(v), got)
	}
	if got := impl.Compare(v, v); got != 0 {
		t.Errorf("Compare of %s and itself = %d", shownVal(v), got)
	}
}

// checkOrder asks both ways round.
func checkOrder(t *testing.T, a impl.Val, b impl.Val, want int) {
	t.Helper()
	if got := impl.Compare(a, b); got != want {
		t.Errorf("Compare(%s, %s) = %d; want %d", shownVal(a), shownVal(b), got, want)
	}
	if got := impl.Compare(b, a); got != -want {
		t.Errorf("Compare(%s, %s) = %d; want %d", shownVal(b), shownVal(a), got, -want)
	}
}

func checkRead(t *testing.T, s string, want impl.Val) {
	t.Helper()
	got := impl.Read(s)
	if got != want {
		t.Errorf("Read(%.80q) = %s; want %s", s, shownVal(got), shownVal(want))
	}
	if !impl.ValOk(got) {
		t.Errorf("Read(%.80q) = %s is not right", s, shownVal(got))
	}
}

func TestValConstants(t *testing.T) {
	if impl.VlNone != 0 || impl.VlNum != 1 || impl.VlText != 2 || impl.VlLook != 3 || impl.MaxText != 300 {
		t.Error("constants")
	}
}

// rightVals are of each kind, at the limits too.
func rightVals() []impl.Val {
	list := []impl.Val{valNone}
	for _, n := range spread() {
		list = append(list, valNum(n), valLook(n, shownNum(n)), valLook(n, "  "+shownNum(n)+" "), valText(shownNum(n)))
	}
	for _, s := range []string{"", " ", "a", "abc", "10", " 10 ", "-1.5", "1x", "-", ".", "9000001", "\x00", "\n", "\xff", "\u00e9", strings.Repeat("x", 300), strings.Repeat("1", 300)} {
		list = append(list, valText(s))
	}
	return append(list,
		valLook(0, "-0"), valLook(0, "0000.0000"), valLook(500000, ".5"), valLook(-500000, "-.5"), valLook(one, "+1"), valLook(1123456, "1.1234569"),
		valLook(top, "9000000.0000009"), valLook(-top, "-9000000.0000009"), valLook(0, "-.0000009"),
		valLook(0, strings.Repeat("0", 300)), valLook(7*one, strings.Repeat(" ", 299)+"7"), valLook(7*one, "7"+strings.Repeat(" ", 299)),
		valLook(1500000, "1.5"+strings.Repeat("0", 297)), valLook(999999, "."+strings.Repeat("9", 299)))
}

func TestValOkRight(t *testing.T) {
	for _, v := range rightVals() {
		if !impl.ValOk(v) {
			t.Errorf("%s is refused", shownVal(v))
		}
		checkVal(t, v)
	}
}

func wrongVals() []impl.Val {
	list := []impl.Val{
		// What is not named stands there.
		{Kind: impl.VlNone, N: 1}, {Kind: impl.VlNone, N: -1}, {Kind: impl.VlNone, S: "a"}, {Kind: impl.VlNone, S: " "}, {Kind: impl.VlNone, N: one, S: "1"}, {Kind: impl.VlNone, S: "0"},
		{Kind: impl.VlNum, S: "1"}, {Kind: impl.VlNum, N: one, S: "1"}, {Kind: impl.VlNum, S: " "}, {Kind: impl.VlNum, N: -one, S: "x"},
		{Kind: impl.VlText, N: 1}, {Kind: impl.VlText, N: -1, S: "a"}, {Kind: impl.VlText, N: one, S: "1"},
		// It looks like another number, or like none.
		valLook(0, ""), valLook(0, " "), valLook(0, "x"), valLook(0, "."), valLook(0, "-"), valLook(0, "0x"), valLook(one, "1x"), valLook(one, "1."), valLook(one, "1 1"),
		valLook(one, ""), valLook(one, "2"), valLook(one, "-1"), valLook(-one, "1"), valLook(1, "1"), valLook(0, "1"), valLook(one, "0"), valLook(1123457, "1.1234569"), valLook(one, "\t1"), valLook(one, "1\n"),
		valLook(top, "9000001"), valLook(0, "9000001"), valLook(top+1, "9000000.000001"), valLook(0, "9000000.000001"), valLook(-top-1, "-9000000.000001"), valLook(9000001*one, "9000001"),
		// A byte more than a text may have.
		valText(strings.Repeat("x", 301)), valText(strings.Repeat("1", 301)), valText("7" + strings.Repeat(" ", 300)), valText(strings.Repeat("x", 5000)),
		valLook(7*one, "7"+strings.Repeat(" ", 300)), valLook(7*one, strings.Repeat(" ", 300)+"7"), valLook(0, strings.Repeat("0", 301)), valLook(one, "1."+strings.Repeat("0", 5000)),
		{Kind: impl.VlNone, S: strings.Repeat("x", 301)}, {Kind: impl.VlNum, S: strings.Repeat("0", 301)},
	}
	for _, n := range notRight {
		list = append(list, impl.Val{N: n}, valNum(n), impl.Val{Kind: impl.VlText, N: n, S: "a"}, valLook(n, "1"), valLook(n, ""), valLook(n, big.NewRat(int64(n), one).FloatString(6)))
	}
	for _, kind := range noKinds {
		list = append(list, impl.Val{Kind: kind}, impl.Val{Kind: kind, N: one}, impl.Val{Kind: kind, S: "1"}, impl.Val{Kind: kind, N: one, S: "1"}, impl.Val{Kind: kind, N: math.MinInt, S: strings.Repeat("x", 301)})
	}
	return list
}

func TestValOkWrong(t *testing.T) {
	for _, v := range wrongVals() {
		if impl.ValOk(v) {
			t.Errorf("%s is accepted", shownVal(v))
		}
		checkVal(t, v)
	}
}

func TestRead(t *testing.T) {
	for _, c := range []struct {
		s string
		n int
	}{
		{"0", 0}, {"10", 10 * one}, {" 10 ", 10 * one}, {"   10", 10 * one}, {"10   ", 10 * one}, {"007", 7 * one}, {"-7", -7 * one}, {"+7", 7 * one}, {" -7 ", -7 * one}, {"-0", 0},
		{"2.5", 2500000}, {"-2.5", -2500000}, {".5", 500000}, {"-.5", -500000}, {"2.50", 2500000}, {" +.5 ", 500000},
		// Digits that are cut away.
		{"1.123456", 1123456}, {"1.1234567", 1123456}, {"-1.1234569", -1123456}, {"0.0000009", 0}, {"-.0000009", 0},
		// Limits.
		{"9000000", top}, {"-9000000", -top}, {"9000000.0000009", top}, {"-9000000.0000009", -top}, {"8999999.999999", top - 1},
	} {
		checkRead(t, c.s, valLook(c.n, c.s))
	}
	for _, s := range []string{
		"", " ", "   ", "abc", "x1", "1x", "10 20", "1 x", "-", "+", " - ", ".", " . ", "-.", "1.", "1. ", "- 1", "--1", "+-1", "1..5", "1.5.2", "1e3", "0x10", "1,5",
		"\t1", "1\t", "1\n", "\n", "1\x00", "\xff1", "1\xff", "\u0663", "\u00a01",
		"9000001", "-9000001", "9000000.000001", "-9000000.000001", "9223372036854775808", "18446744073709551617",
	} {
		checkRead(t, s, valText(s))
	}
}

// TestReadLimit: of a longer text only what is kept counts, so that it looks
// like the number that is told of it.
func TestReadLimit(t *testing.T) {
	for _, size := range []int{299, 300, 301, 302, 600, 5000} {
		kept := min(size, 300)
		checkRead(t, strings.Repeat("x", size), valText(strings.Repeat("x", kept)))
		checkRead(t, strings.Repeat("1", size), valText(strings.Repeat("1", kept)))
		checkRead(t, strings.Repeat(" ", size), valText(strings.Repeat(" ", kept)))
		checkRead(t, strings.Repeat("\xff", size), valText(strings.Repeat("\xff", kept)))
		checkRead(t, strings.Repeat("0", size), valLook(0, strings.Repeat("0", kept)))
		checkRead(t, "7"+strings.Repeat(" ", size-1), valLook(7*one, "7"+strings.Repeat(" ", kept-1)))
		checkRead(t, "1.5"+strings.Repeat("0", size-3), valLook(1500000, "1.5"+strings.Repeat("0", kept-3)))
	}
	blanks, noughts := strings.Repeat(" ", 298), strings.Repeat("0", 298)
	// What stands behind the cut, or just ahead of it.
	checkRead(t, blanks+" 7", valLook(7*one, blanks+" 7"))
	checkRead(t, blanks+"  7", valText(blanks+"  "))
	checkRead(t, blanks+"78", valLook(78*one, blanks+"78"))
	checkRead(t, blanks+"789", valLook(78*one, blanks+"78"))
	checkRead(t, blanks+"7 x", valLook(7*one, blanks+"7 "))
	checkRead(t, blanks+"7x ", valText(blanks+"7x"))
	checkRead(t, blanks+"7.5", valText(blanks+"7."))
	checkRead(t, blanks+" -5", valText(blanks+" -"))
	checkRead(t, noughts+"05", valLook(5*one, noughts+"05"))
	checkRead(t, noughts+"005", valLook(0, noughts+"00"))
	checkRead(t, strings.Repeat("0", 293)+"9000000", valLook(top, strings.Repeat("0", 293)+"9000000"))
	checkRead(t, strings.Repeat("0", 293)+"90000001", valLook(top, strings.Repeat("0", 293)+"9000000"))
	checkRead(t, strings.Repeat("0", 293)+"9000001", valText(strings.Repeat("0", 293)+"9000001"))
	// Texts are bytes: what is cut need not end with a rune.
	checkRead(t, strings.Repeat("x", 299)+"\u00e9", valText(strings.Repeat("x", 299)+"\xc3"))
}

func TestReadShown(t *testing.T) {
	list := spread()
	for i, step := 0, 1; i < 2000; i++ {
		step = step * 7 % (2*top + 1)
		list = append(list, step-top, (step-top)>>(i%43), i, -i)
	}
	for _, n := range list {
		s := impl.DecText(n)
		checkRead(t, s, valLook(n, s))
		if got := impl.ToText(valNum(n)); got != s {
			t.Errorf("ToText of the number %d = %q; want %q", n, got, s)
		}
		checkOrder(t, impl.Read(s), valNum(n), 0)
		checkOrder(t, valText(s), valNum(n), 0)
	}
	for _, n := range notRight {
		checkRead(t, impl.DecText(n), valText(""))
	}
}

func TestReadEachText(t *testing.T) {
	eachText(" +-.09x\xff", 5, func(s string) {
		want := valText(s)
		if number := exactNum(s); number.lookLike {
			want = valLook(number.n, s)
		}
		checkRead(t, s, want)
		checkVal(t, want)
		checkVal(t, valText(s))
	})
}

func TestToNum(t *testing.T) {
	for _, c := range []struct {
		v    impl.Val
		want int
	}{
		{valNone, 0}, {valNum(2500000), 2500000}, {valNum(-top), -top}, {valLook(one, " 1"), one},
		{valText(""), 0}, {valText("abc"), 0}, {valText("2x"), 2 * one}, {valText(" -2.5e3"), -2500000}, {valText("12"), 12 * one}, {valText("1.23456789 "), 1234567},
		{valText("x2"), 0}, {valText("9000001"), 0}, {valText("9000000.5x"), 0}, {valText("-9000000x"), -top}, {valText("1."), one}, {valText("- 1"), 0},
		// Values that are not right.
		{impl.Val{N: 7, S: "7"}, 0}, {impl.Val{Kind: impl.VlNum, N: 7, S: "8"}, 7}, {impl.Val{Kind: impl.VlText, N: 7, S: "8"}, 8 * one}, {impl.Val{Kind: impl.VlText, N: 7}, 0},
		{valNum(top + 1), top + 1}, {valNum(math.MinInt), math.MinInt}, {valLook(7, "8"), 7}, {valLook(7, "x"), 7}, {valLook(math.MaxInt, ""), math.MaxInt},
		{valText(strings.Repeat(" ", 300) + "7"), 7 * one}, {impl.Val{Kind: 4, N: 7, S: "7"}, 0}, {impl.Val{Kind: -1, N: 7, S: "7"}, 0},
	} {
		if got := impl.ToNum(c.v); got != c.want {
			t.Errorf("ToNum(%s) = %d; want %d", shownVal(c.v), got, c.want)
		}
	}
}

func TestToText(t *testing.T) {
	long := strings.Repeat("x", 301)
	for _, c := range []struct {
		v    impl.Val
		want string
	}{
		{valNone, ""}, {valNum(0), "0"}, {valNum(2500000), "2.5"}, {valNum(-10 * one), "-10"}, {valNum(top), "9000000"}, {valNum(1), "0.000001"},
		{valText(""), ""}, {valText(" a "), " a "}, {valText("1.50"), "1.50"}, {valLook(10*one, " 10 "), " 10 "}, {valLook(500000, "+.50"), "+.50"}, {valLook(0, "-0"), "-0"},
		// Values that are not right.
		{valNum(top + 1), ""}, {valNum(-top - 1), ""}, {valNum(math.MinInt), ""}, {impl.Val{Kind: impl.VlNum, N: one, S: "x"}, "1"}, {impl.Val{Kind: impl.VlNum, N: top + 1, S: "x"}, ""},
		{impl.Val{N: one, S: "x"}, "x"}, {impl.Val{Kind: impl.VlText, N: one, S: "x"}, "x"}, {valLook(one, "x"), "x"}, {valLook(one, ""), ""}, {valText(long), long},
		{impl.Val{Kind: 4, N: one, S: "x"}, "x"}, {impl.Val{Kind: -1, N: one}, ""}, {impl.Val{Kind: -1, S: long}, long},
	} {
		if got := impl.ToText(c.v); got != c.want {
			t.Errorf("ToText(%s) = %.80q; want %.80q", shownVal(c.v), got, c.want)
		}
	}
}

func TestTruth(t *testing.T) {
	for _, v := range []impl.Val{
		valNum(1), valNum(-1), valNum(top), valLook(one, "1"), valLook(-1, "-0.000001"), valText("0"), valText(" "), valText("a"), valText("0.0"), valText("\x00"),
		// Values that are not right.
		valNum(top + 1), valNum(math.MinInt), valLook(1, ""), valLook(1, "0"), {Kind: impl.VlText, N: 1, S: "0"},
	} {
		if !impl.Truth(v) {
			t.Errorf("Truth(%s) is false", shownVal(v))
		}
	}
	for _, v := range []impl.Val{
		valNone, valNum(0), valLook(0, "0"), valLook(0, " -0.0 "), valLook(0, "0.0000009"), valText(""),
		// Values that are not right.
		{N: 1, S: "a"}, {Kind: impl.VlNum, S: "a"}, valLook(0, "1"), valLook(0, "a"), {Kind: impl.VlText, N: 1}, {Kind: 4, N: 1, S: "a"}, {Kind: -1, N: 1, S: "a"}, {Kind: math.MinInt, N: 1, S: "a"},
	} {
		if impl.Truth(v) {
			t.Errorf("Truth(%s) is true", shownVal(v))
		}
	}
}

func TestCompare(t *testing.T) {
	for _, c := range []struct {
		a, b impl.Val
		want int
	}{
		// By number.
		{valNum(9 * one), valNum(10 * one), -1}, {valNum(-one), valNum(one), -1}, {valNum(-top), valNum(top), -1}, {valNum(1), valNum(0), 1}, {valNum(5), valNum(5), 0},
		{valLook(9*one, "9"), valLook(10*one, "10"), -1}, {valLook(one, "1"), valLook(one, " 1.0 "), 0}, {valLook(-one, "-1"), valLook(one, "+1"), -1}, {valLook(0, "-0"), valLook(0, "0"), 0},
		{valLook(10*one, "10"), valNum(9 * one), 1}, {valLook(10*one, " 10 "), valNum(10 * one), 0}, {valLook(1123456, "1.1234569"), valNum(1123456), 0}, {valLook(500000, ".5"), valNum(500000), 0},
		// By text, where one is VlText, even one that looks like a number.
		{valText("10"), valText("9"), -1}, {valText("10"), valNum(9 * one), -1}, {valText("10"), valLook(9*one, "9"), -1}, {valText("9"), valNum(10 * one), 1},
		{valText("10"), valNum(10 * one), 0}, {valText("10.0"), valNum(10 * one), 1}, {valText(" 10"), valNum(10 * one), -1}, {valText("-1"), valText("1"), -1}, {valText("-1"), valText("-2"), -1},
		{valText("1.0"), valLook(one, "1.0"), 0}, {valText("1"), valLook(one, "1.0"), -1}, {valText(" 10 "), valLook(10*one, " 10 "), 0}, {valText("0.5"), valLook(500000, ".5"), 1},
		{valText("0.5"), valNum(500000), 0}, {valText(".5"), valNum(500000), -1}, {valText("a"), valNum(top), 1}, {valText("!"), valNum(top), -1},
		{valText("a"), valText("b"), -1}, {valText("a"), valText("ab"), -1}, {valText(""), valText("a"), -1}, {valText(""), valText("\x00"), -1}, {valText("ab"), valText("b"), -1}, {valText("Z"), valText("a"), -1},
		{valText("\x7f"), valText("\x80"), -1}, {valText("z"), valText("\xff"), -1}, {valText("\xc3"), valText("\u00e9"), -1}, {valText("\ufffd"), valText("\xff"), -1},
		// Nothing: 0 against numbers, the empty text against texts.
		{valNone, valNone, 0}, {valNone, valNum(0), 0}, {valNone, valNum(1), -1}, {valNone, valNum(-1), 1}, {valNone, valLook(0, " 0 "), 0}, {valNone, valLook(-one, "-1"), 1}, {valNone, valLook(1, ".000001"), -1},
		{valNone, valText(""), 0}, {valNone, valText("0"), -1}, {valNone, valText("\x00"), -1}, {valNone, valText("-1"), -1},
		{valText(""), valNum(0), -1}, {valText(""), valNum(-one), -1}, {valText(""), valLook(0, "0"), -1},
		// Limits.
		{valNum(top), valNum(top - 1), 1}, {valLook(top, "9000000"), valNum(top), 0}, {valText("9000000"), valNum(top), 0}, {valText("-9000000"), valNum(-top), 0},
		{valText(strings.Repeat("x", 300)), valText(strings.Repeat("x", 299)), 1}, {valText(strings.Repeat("x", 299) + "y"), valText(strings.Repeat("x", 300)), 1},
	} {
		checkOrder(t, c.a, c.b, c.want)
	}
}

// TestCompareWrong: values that are not right are held against each other by
// what ToNum and ToText tell of them.
func TestCompareWrong(t *testing.T) {
	long := strings.Repeat("x", 300)
	for _, c := range []struct {
		a, b impl.Val
		want int
	}{
		{valNum(math.MinInt), valNum(math.MaxInt), -1}, {valNum(math.MinInt), valNum(top), -1}, {valNum(math.MaxInt), valNum(-1), 1}, {valNum(top), valNum(top + 1), -1}, {valNum(math.MinInt), valNum(1), -1},
		{valText(""), valNum(top + 1), 0}, {valText("0"), valNum(math.MinInt), 1},
		{impl.Val{Kind: impl.VlNum, N: one, S: "z"}, valText("1"), 0}, {impl.Val{Kind: impl.VlNum, N: one, S: "z"}, valNum(one), 0},
		{impl.Val{N: 5, S: "b"}, valNum(0), 0}, {impl.Val{N: 5, S: "b"}, valText("a"), 1}, {impl.Val{N: 5, S: "b"}, valText("b"), 0}, {impl.Val{N: 5, S: "b"}, valNone, 0},
		{impl.Val{Kind: impl.VlText, N: 5, S: "a"}, valText("a"), 0}, {impl.Val{Kind: impl.VlText, N: 5, S: "a"}, impl.Val{Kind: impl.VlText, N: 6, S: "a"}, 0},
		{valLook(5, "1"), valNum(5), 0}, {valLook(5, "b"), valLook(6, "a"), -1}, {valLook(5, "b"), valText("b"), 0}, {valLook(5, "b"), valText("a"), 1},
		{impl.Val{Kind: 4, N: 5, S: "b"}, valNum(0), 0}, {impl.Val{Kind: 4, N: 5, S: "b"}, valNum(5), -1}, {impl.Val{Kind: 4, N: 5, S: "b"}, valText("b"), 0}, {impl.Val{Kind: 4, N: 5, S: "b"}, valText("c"), -1},
		{impl.Val{Kind: -1, N: -5, S: "b"}, impl.Val{Kind: 4, N: 5, S: "a"}, 0}, {impl.Val{Kind: -1, N: 5, S: "b"}, valNone, 0}, {impl.Val{Kind: -1}, valText(""), 0}, {impl.Val{Kind: -1}, valLook(-1, "-.000001"), 1},
		// Nothing of a text that is too long is cut away.
		{valText(long + "a"), valText(long + "b"), -1}, {valText(long + "a"), valText(long), 1}, {valLook(5, long+"a"), valText(long + "b"), -1},
	} {
		checkOrder(t, c.a, c.b, c.want)
	}
}

// gridVals are all kinds beside all numbers and texts, right or not.
func gridVals() []impl.Val {
	var list []impl.Val
	for _, kind := range []int{-1, impl.VlNone, impl.VlNum, impl.VlText, impl.VlLook, 4} {
		for _, n := range []int{0, 1, -1, 9 * one, 10 * one, -2500000, top, -top, top + 1, math.MaxInt, math.MinInt} {
			for _, s := range []string{"", "0", "9", "10", " 10 ", "-2.5", "10x", "x", "-", "9000000", "9000001", "\xff", strings.Repeat("x", 300), strings.Repeat("x", 301), strings.Repeat(" ", 298) + "10", strings.Repeat(" ", 299) + "10"} {
				list = append(list, impl.Val{Kind: kind, N: n, S: s})
			}
		}
	}
	return list
}

// TestValLikeItself is promise 6, with what else the order of two must be: of
// each two one is less just if the other one is more, and it is the order of
// their numbers or of their texts.
func TestValLikeItself(t *testing.T) {
	list := append(gridVals(), rightVals()...)
	list = append(list, wrongVals()...)
	numbers, texts := make([]int, len(list)), make([]string, len(list))
	for i, v := range list {
		checkVal(t, v)
		numbers[i], texts[i] = byNum(v), byText(v)
	}
	for i, a := range list {
		for j, b := range list[:i+1] {
			want := orderOfNumbers(numbers[i], numbers[j])
			if a.Kind == impl.VlText || b.Kind == impl.VlText {
				want = orderOfTexts(texts[i], texts[j])
			}
			checkOrder(t, a, b, want)
		}
		if t.Failed() {
			return
		}
	}
}

// TestValByChance: whatever comes from a line is right, holds the line's own
// bytes, and is like itself.
func TestValByChance(t *testing.T) {
	chance := rand.New(rand.NewSource(6))
	last := valNone
	for range 20000 {
		bytes := make([]byte, chance.Intn(320))
		likely := []string{"0123456789", " 0", "  +-.019", "ab\x00\xff 1"}[chance.Intn(4)]
		for i := range bytes {
			bytes[i] = likely[chance.Intn(len(likely))]
		}
		line := string(bytes)
		v := impl.Read(line)
		if got := impl.ToText(v); got != line[:min(len(line), 300)] {
			t.Fatalf("Read(%q) holds %q", line, got)
		}
		checkRead(t, line, impl.Read(impl.ToText(v)))
		checkVal(t, v)
		if got, other := impl.Compare(v, last), impl.Compare(last, v); got != -other {
			t.Fatalf("Compare(%s, %s) = %d; the other way round %d", shownVal(v), shownVal(last), got, other)
		}
		last = v
	}
}
