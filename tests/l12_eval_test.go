package tests

import (
	"fmt"
	"math"
	"slices"
	"strings"
	"testing"

	"loop.example/g00289/impl"
)

// runnable is the rules of a source that may run.
func runnable(t *testing.T, src string) []impl.Rule {
	t.Helper()
	list := rulesFrom(t, src)
	if code := impl.Check(list); code != impl.CkDone {
		t.Fatalf("Check of %.300q tells %d", src, code)
	}
	return list
}

// lineOf is Line, and asks for what holds of each one: what it tells is a state
// of these names; where something goes wrong, or went wrong, all is as it was;
// its places (chapter 15) tell the same.
func lineOf(t *testing.T, list []impl.Rule, s impl.State, line string) (impl.State, string) {
	t.Helper()
	got, out := impl.Line(list, s, line)
	vars, cells := impl.Names(list)
	if !impl.StateOk(got, len(vars), len(cells)) {
		t.Errorf("the state behind %.80q is not right: %s", line, shownState(got))
	}
	if got.Err != impl.ErNone {
		s.Err = got.Err
		checkState(t, fmt.Sprintf("what went wrong at %.80q", line), got, s)
	} else if got.Nr != s.Nr+1 {
		t.Errorf("line %.80q behind %d is line %d", line, s.Nr, got.Nr)
	}
	if got.Err != impl.ErNone && out != "" || len(out) > impl.MaxOut {
		t.Errorf("line %.80q with Err %d puts out %q", line, got.Err, out)
	}
	checkAsTrees(t, list, s, line, got, out)
	return got, out
}

// checkLines asks for what is put out by each line, one behind the other.
func checkLines(t *testing.T, src string, lines []string, want ...string) impl.State {
	t.Helper()
	list := runnable(t, src)
	s := impl.Begin(list)
	for i, line := range lines {
		next, out := lineOf(t, list, s, line)
		if s = next; s.Err != impl.ErNone || out != want[i] {
			t.Errorf("%.300q, line %d, %.80q: Err %d, out %q; want %q", src, i, line, s.Err, out, want[i])
		}
	}
	return s
}

func checkOut(t *testing.T, src string, line string, want string) {
	t.Helper()
	checkLines(t, src, []string{line}, want)
}

func checkWrong(t *testing.T, src string, line string, want int) {
	t.Helper()
	list := runnable(t, src)
	if s, _ := lineOf(t, list, impl.Begin(list), line); s.Err != want {
		t.Errorf("%.300q, line %.80q: Err %d, want %d", src, line, s.Err, want)
	}
}

// valueOf is what an e is for a line, set to a var of its own.
func valueOf(t *testing.T, e string, line string) (impl.Val, int) {
	t.Helper()
	list := runnable(t, "{ zz = ("+e+"); }")
	s, _ := lineOf(t, list, impl.Begin(list), line)
	return s.Vars[len(s.Vars)-1], s.Err
}

func checkValue(t *testing.T, e string, line string, want impl.Val) {
	t.Helper()
	if got, code := valueOf(t, e, line); got != want || code != impl.ErNone {
		t.Errorf("%.200s of line %.80q is %s, Err %d; want %s", e, line, shownVal(got), code, shownVal(want))
	}
}

func checkWrongE(t *testing.T, e string, line string, want int) {
	t.Helper()
	checkWrong(t, "{ zz = ("+e+"); }", line, want)
}

func num(n float64) impl.Val { return valNum(int(math.Round(n * one))) }

func TestLineConstants(t *testing.T) {
	if impl.MaxFuel != 3000 || impl.MaxOut != 600 {
		t.Error("limits")
	}
}

func TestLineLeaves(t *testing.T) {
	const line = "7  abc -2.5 10x"
	for e, want := range map[string]impl.Val{
		"5": num(5), "0": num(0), "0.000001": valNum(1), "9000000": valNum(top), `""`: valText(""), `"5"`: valText("5"), `"a b"`: valText("a b"),
		"x": valNone, "A[1]": valNone, "NR": num(1), "NF": num(4),
		"/b/": num(1), "/^7/": num(1), "/^a/": num(0), "/x$/": num(1), "/7 abc/": num(0), "/7  abc/": num(1), "(/^$/)": num(0),
		"$0": valText(line), "$1": valLook(7*one, "7"), "$2": valText("abc"), "$3": valLook(-2500000, "-2.5"), "$4": valText("10x"), "$5": valText(""), "$6": valText(""), "$9000000": valText(""),
		"$(-1)": valText(""), "$(0 - 9000000)": valText(""), "$0.9": valText(line), "$(-0.9)": valText(line), "$1.999999": valLook(7*one, "7"), "$(-1.5)": valText(""), "$4.5": valText("10x"), "$5.5": valText(""),
		"$x": valText(line), `$"2"`: valText("abc"), `$"2.9 y"`: valText("abc"), `$""`: valText(line), `$"a"`: valText(line), "$NF": valText("10x"), "$$3": valText(""), "$$1": valText(""), "$NR": valLook(7*one, "7"), "$(NF + 1)": valText(""), "$(NF - 1)": valLook(-2500000, "-2.5"), "$$$0": valText(line),
	} {
		checkValue(t, e, line, want)
	}
	for line, want := range map[string][]impl.Val{
		"":          {valText(""), valText(""), num(0)},
		" ":         {valText(" "), valText(""), num(0)},
		"    ":      {valText("    "), valText(""), num(0)},
		"a":         {valText("a"), valText("a"), num(1)},
		" 12 ":      {valLook(12*one, " 12 "), valLook(12*one, "12"), num(1)},
		"+1.50 b":   {valText("+1.50 b"), valLook(1500000, "+1.50"), num(2)},
		"a\tb\nc":   {valText("a\tb\nc"), valText("a\tb\nc"), num(1)},
		"\xff \x00": {valText("\xff \x00"), valText("\xff"), num(2)},
		"9000001":   {valText("9000001"), valText("9000001"), num(1)},
	} {
		checkValue(t, "$0", line, want[0])
		checkValue(t, "$1", line, want[1])
		checkValue(t, "NF", line, want[2])
	}
	checkValue(t, "/^$/", "", num(1))
	checkValue(t, "$1", "1 2", valLook(one, "1"))
	checkValue(t, "$2", "1 2", valLook(2*one, "2"))
}

// TestLineLong: of a line and of its pieces the first MaxText bytes are read;
// patterns are held against all of it.
func TestLineLong(t *testing.T) {
	a300 := strings.Repeat("a", 300)
	long := a300 + "b " + a300 + "c"
	checkValue(t, "$0", a300, valText(a300))
	checkValue(t, "$0", a300+"b", valText(a300))
	checkValue(t, "$0", long, valText(a300))
	checkValue(t, "$1", long, valText(a300))
	checkValue(t, "$2", long, valText(a300))
	checkValue(t, "length($2)", long, num(300))
	checkValue(t, "NF", long, num(2))
	checkValue(t, "/c$/", long, num(1))
	checkValue(t, "$0 ~ /b/", long, num(0))
	checkValue(t, "$0", strings.Repeat("0", 299)+"12", valLook(one, strings.Repeat("0", 299)+"1"))
	checkOut(t, "{ print; }", long, a300+"\n")
	checkOut(t, "{ print $0; }", long, a300+"\n")
	checkOut(t, "1", strings.Repeat("1", 1000), strings.Repeat("1", 300)+"\n")
	checkValue(t, "NF", strings.Repeat("a ", 100000), num(100000))
	checkValue(t, "$100000", strings.Repeat("a ", 99999)+"last", valText("last"))
	// More fields than a number may tell.
	most := strings.Repeat("a ", 9000000)
	checkValue(t, "NF", most, valNum(top))
	checkWrongE(t, "NF", most+"a", impl.ErNum)
	checkValue(t, "$9000000", most+"a", valText("a"))
}

func TestLineNumbers(t *testing.T) {
	for e, want := range map[string]impl.Val{
		"1 + 2": num(3), "1 - 2": num(-1), "2 * 3.5": num(7), "7 / 2": num(3.5), "2 / 3": num(0.666666), "-2 / 3": num(-0.666666), "1 / 3 * 3": num(0.999999), "0 / 5": num(0),
		"5 % 3": num(2), "-5 % 3": num(-2), "5 % -3": num(2), "-5 % -3": num(-2), "6 % 3": num(0), "-6 % 3": num(0), "0 % 3": num(0), "2 % 3": num(2), "-2 % 3": num(-2), "5.5 % 2": num(1.5), "-5.5 % 2": num(-1.5), "1 % 0.3": num(0.1), "1 % 0.000001": num(0), "9000000 % 0.000001": num(0), "9000000 % 0.000007": valNum(top % 7), "0.5 % 2": num(0.5), "0.000001 % 9000000": valNum(1), "7 % 2.5": num(2),
		"x + 1": num(1), "x - 1": num(-1), "x * 1": num(0), "x / 1": num(0), "x % 1": num(0), `"3" + "4"`: num(7), `"3 apples" * 2`: num(6), `"apples" + 2`: num(2), `" -1.5x" + 0`: num(-1.5), `"9000001" + 1`: num(1), "A[1] + 2": num(2), "/a/ + 1": num(2), "$1 + $2": num(5.5), "$3 + 1": num(11), "$9 + 1": num(1),
		"8999999.999999 + 0.000001": valNum(top), "9000000 + 0": valNum(top), "9000000 - 0.000001": valNum(top - 1), "-9000000 - 0": valNum(-top), "-8999999 - 1": valNum(-top), "-9000000 + 9000000": num(0), "3000 * 3000": valNum(top), "-3000 * 3000": valNum(-top), "9000000 * 1": valNum(top), "0.001 * 0.001": valNum(1), "0.001 * 0.0009": num(0), "-0.001 * 0.0009": num(0), "9000000 / 1": valNum(top), "9 / 0.000001": valNum(top), "-9 / 0.000001": valNum(-top), "9000000 / -1": valNum(-top),
		"- 5": num(-5), "- 0": num(0), "-x": num(0), `-"3x"`: num(-3), "-$2": num(-2.5), "--5": num(5), "-9000000": valNum(-top), "-(-9000000)": valNum(top), "!5": num(0), "!0": num(1), "!x": num(1), `!""`: num(1), `!"0"`: num(0), `!"a"`: num(0), "!$1": num(0), "!$4": num(1), "!$9": num(1), "!!7": num(1), "!A[1]": num(1), "!-1": num(0), "!0.000001": num(0),
	} {
		checkValue(t, e, "3 2.5 10a 0", want)
	}
	for e, want := range map[string]int{
		"9000000 + 0.000001": impl.ErNum, "-9000000 - 0.000001": impl.ErNum, "-9000000 + -0.000001": impl.ErNum, "9000000 - -1": impl.ErNum, "9000000 + 9000000": impl.ErNum, "3000 * 3000.001": impl.ErNum, "-3000 * 3000.001": impl.ErNum, "9000000 * 9000000": impl.ErNum, "9000000 * -9000000": impl.ErNum, "9000000 / 0.5": impl.ErNum, "9000000 / 0.000001": impl.ErNum, "9.000001 / 0.000001": impl.ErNum,
		"1 / 0": impl.ErZero, "0 / 0": impl.ErZero, "1 % 0": impl.ErZero, "0 % 0": impl.ErZero, "1 / x": impl.ErZero, "1 % x": impl.ErZero, `1 / "a"`: impl.ErZero, "1 / $4": impl.ErZero, "1 % $4": impl.ErZero, "1 / $9": impl.ErZero, "1 / -0": impl.ErZero, "1 / (1 - 1)": impl.ErZero, "1 % (0.5 / 9000000)": impl.ErZero, "9000000 / 0": impl.ErZero, "1 % A[1]": impl.ErZero, "-5 % 0": impl.ErZero,
		// The first that goes wrong.
		"1 / 0 + 9000000 * 9": impl.ErZero, "9000000 * 9 + 1 / 0": impl.ErNum, "(9000000 * 9) / 0": impl.ErNum, "0 / (9000000 * 9)": impl.ErNum, "-(1 / 0)": impl.ErZero, "!(1 / 0)": impl.ErZero, "$(1 / 0)": impl.ErZero, "A[1 / 0]": impl.ErZero, "(1 / 0) ~ /a/": impl.ErZero, "length(1 / 0)": impl.ErZero, "int(9000000 * 9)": impl.ErNum, "substr(1 % 0, 9000000 * 9)": impl.ErZero, "substr(1, 9000000 * 9, 1 % 0)": impl.ErNum, "index(1, 1 / 0)": impl.ErZero, "1 < 1 / 0": impl.ErZero, "(1 / 0) 2": impl.ErZero, "x = 1 / 0": impl.ErZero, "x += 1 / 0": impl.ErZero, "A[1 / 0] = 9000000 * 9": impl.ErZero, "A[9000000 * 9] = 1 / 0": impl.ErNum,
	} {
		checkWrongE(t, e, "3 2.5 10a 0", want)
	}
}

// quoted is a text of so many bytes as it stands in a source.
func quoted(b string, count int) string { return `"` + strings.Repeat(b, count) + `"` }

func TestLineTexts(t *testing.T) {
	for e, want := range map[string]impl.Val{
		`"a" "b"`: valText("ab"), `1 2`: valText("12"), `"" ""`: valText(""), `x x`: valText(""), `x 1`: valText("1"), `1.5 "a"`: valText("1.5a"), `(-1) 2`: valText("-12"), `$1 $2`: valText("32.50"), `$1 " " $2`: valText("3 2.50"), "NR NF": valText("14"), `1 + 2 3`: valText("33"), "A[1] 7": valText("7"), "$0 1": valText("3 2.50 10a 01"),
		`1 < 2`: num(1), `2 < 1`: num(0), `1 < 1`: num(0), `1 <= 1`: num(1), `2 <= 1`: num(0), `1 <= 2`: num(1), `2 > 1`: num(1), `1 > 1`: num(0), `1 > 2`: num(0), `1 >= 1`: num(1), `1 >= 2`: num(0), `2 >= 1`: num(1), `1 == 1`: num(1), `1 == 2`: num(0), `2 == 1`: num(0), `1 != 1`: num(0), `1 != 2`: num(1), `2 != 1`: num(1),
		`10 < 9`: num(0), `"10" < 9`: num(1), `10 < "9"`: num(1), `"10" < "9"`: num(1), `$1 < 10`: num(1), `$1 < "10"`: num(0), `$2 == 2.5`: num(1), `$2 == "2.5"`: num(0), `$2 == "2.50"`: num(1), `$3 == 10`: num(0), `$3 > 9`: num(0), `x == 0`: num(1), `x == ""`: num(1), `x == y`: num(1), `x < 1`: num(1), `x < ""`: num(0), `"" < "a"`: num(1), `"a" < "B"`: num(0), `"a" <= "ab"`: num(1), `x >= -1`: num(1), `$9 == 0`: num(0), `$9 == x`: num(1), `-1 < 0`: num(1), `$4 == 0`: num(1), `A[1] == 0`: num(1),
		`"abc" ~ /b/`: num(1), `"abc" ~ /d/`: num(0), `"abc" !~ /b/`: num(0), `"abc" !~ /d/`: num(1), `"abc" ~ /^$/`: num(0), `"" ~ /^$/`: num(1), `12 ~ /^12$/`: num(1), `1.50 ~ /^1.5$/`: num(1), `x ~ /^$/`: num(1), `$2 ~ /0$/`: num(1), `(1 + 1) ~ /2/`: num(1), `"a" ~ /a/ ~ /1/`: num(1), `"b" ~ /a/ ~ /0/`: num(1), `/3/ ~ /1/`: num(1), `"a/b" ~ /\//`: num(1),
	} {
		checkValue(t, e, "3 2.50 10a 0", want)
	}
	a150, a300 := strings.Repeat("a", 150), strings.Repeat("a", 300)
	checkValue(t, quoted("a", 300), "", valText(a300))
	checkWrongE(t, quoted("a", 301), "", impl.ErLong)
	checkWrongE(t, quoted("a", 1000), "", impl.ErLong)
	checkValue(t, quoted("a", 150)+quoted("a", 150), "", valText(a300))
	checkWrongE(t, quoted("a", 150)+quoted("a", 151), "", impl.ErLong)
	checkWrongE(t, quoted("a", 300)+quoted("a", 300), "", impl.ErLong)
	checkValue(t, quoted("a", 300)+`""`, "", valText(a300))
	checkValue(t, `x `+quoted("a", 300), "", valText(a300))
	checkWrongE(t, quoted("a", 300)+"1", "", impl.ErLong)
	checkValue(t, quoted("a", 298)+"12", "", valText(a300[:298]+"12"))
	checkWrongE(t, "$0 1", a300, impl.ErLong)
	checkValue(t, "$1 $2", a150+" "+a150, valText(a300))
	checkWrongE(t, "$1 $2", a150+" a"+a150, impl.ErLong)
	// A text that is too long goes wrong when it is come to, and then alone.
	checkWrongE(t, quoted("a", 301)+" 1 / 0", "", impl.ErLong)
	checkWrongE(t, "(1 / 0) "+quoted("a", 301), "", impl.ErZero)
	checkValue(t, "0 && "+quoted("a", 301), "", num(0))
	checkValue(t, "1 || "+quoted("a", 301), "", num(1))
	checkWrongE(t, "1 && "+quoted("a", 301), "", impl.ErLong)
	checkOut(t, "{ if (0) { print "+quoted("a", 301)+"; } print 1; next; x = "+quoted("a", 301)+"; }", "", "1\n")
	checkWrong(t, "{ print "+quoted("a", 301)+"; }", "", impl.ErLong)
	checkWrong(t, "{ "+quoted("a", 301)+"; }", "", impl.ErLong)
	checkWrong(t, quoted("a", 301), "", impl.ErLong)
}

func TestLineBothOrOne(t *testing.T) {
	for _, a := range []string{"0", "1", `""`, `"a"`, "x", "$1", "$2", "-1", `"0"`} {
		for _, b := range []string{"0", "1", `""`, `"a"`, "x", "$1", "$2", "-1", `"0"`} {
			isTrue := map[string]bool{"1": true, `"a"`: true, "$2": true, "-1": true, `"0"`: true}
			and, or := num(0), num(0)
			if isTrue[a] && isTrue[b] {
				and = num(1)
			}
			if isTrue[a] || isTrue[b] {
				or = num(1)
			}
			checkValue(t, a+" && "+b, "0 3", and)
			checkValue(t, a+" || "+b, "0 3", or)
		}
	}
	checkValue(t, "0 && 1 / 0", "", num(0))
	checkValue(t, "1 || 1 / 0", "", num(1))
	checkWrongE(t, "1 && 1 / 0", "", impl.ErZero)
	checkWrongE(t, "0 || 1 / 0", "", impl.ErZero)
	checkWrongE(t, "1 / 0 && 0", "", impl.ErZero)
	checkWrongE(t, "1 / 0 || 1", "", impl.ErZero)
	checkOut(t, "{ (0 && (x = 1)); print x; }", "", "\n")
	checkOut(t, "{ (1 && (x = 0)); print x; }", "", "0\n")
	checkOut(t, "{ (1 || (x = 1)); print x; }", "", "\n")
	checkOut(t, "{ (0 || (x = 5)); print x; }", "", "5\n")
	checkOut(t, "{ print 0 && 1 || 1, 1 || 1 && 0; }", "", "1 1\n")
	checkOut(t, "{ print (x += 1) && (x += 1) && (x += 1), x; }", "", "1 3\n")
	checkOut(t, "{ print (x += 1) || (x += 1) || (x += 1), x; }", "", "1 1\n")
}

func TestLineSets(t *testing.T) {
	for src, want := range map[string]string{
		// The value is its own, and of its own kind.
		"{ print x = 5, x; }":                                    "5 5\n",
		"{ x = y = 3; print x, y; }":                             "3 3\n",
		"{ x = $2; print x, x == 2.5, x == \"2.5\"; }":           "2.50 1 0\n",
		"{ x = \"10\"; print x < 9; }":                           "1\n",
		"{ x = 10; print x < 9; }":                               "0\n",
		"{ x = y; print x == 0, x == \"\", !x; }":                "1 1 1\n",
		"{ A[1] = $2; print A[1], A[1] == 2.5; }":                "2.50 1\n",
		"{ print (A[\"k\"] = 4) + 1, A[\"k\"]; }":                "5 4\n",
		"{ x = 5; x = \"\"; print x + 1; }":                      "1\n",
		"{ x += 2; x += 3; print x; }":                           "5\n",
		"{ print x += 2, x += 3, x; }":                           "2 5 5\n",
		"{ x = \"4 apples\"; x += 1; print x; }":                 "5\n",
		"{ x += \"7a\"; print x; }":                              "7\n",
		"{ x = $2; x += 0; print x; }":                           "2.5\n",
		"{ A[1] += 2; A[1] += 3; print A[1]; }":                  "5\n",
		"{ A[1] += $2; print A[1]; A[\"1\"] += 1; print A[1]; }": "2.5\n3.5\n",
		// From the left.
		"{ print x, x = 1, x, x += 1, x; }":                         " 1 1 2 2\n",
		"{ print (x = 2) - (x = 3), x; }":                           "-1 3\n",
		"{ print (x = 2) x (x = 4) x; }":                            "2244\n",
		"{ print (x += 1) < (x += 1); }":                            "1\n",
		"{ print index(x = \"abc\", x), substr(x, y = 2, y - 1); }": "1 b\n",
		// What was there is what is there when it is added to.
		"{ x = 1; x += (x = 5); print x; }":             "10\n",
		"{ A[1] = 1; A[1] += (A[1] = 5); print A[1]; }": "10\n",
		"{ x = 1; x += x += 1; print x; }":              "4\n",
		// The key comes ahead of the value, which may turn what the key was of.
		"{ x = 1; A[x] = (x = 2); print A[1], A[2], x; }":         "2  2\n",
		"{ x = 1; A[x] += (x = 2); print A[1], A[2], x; }":        "2  2\n",
		"{ x = 1; A[x += 1] = x += 1; print A[1], A[2], A[3]; }":  " 3 \n",
		"{ x = 1; A[x += 1] += x += 1; print A[1], A[2], A[3]; }": " 3 \n",
		"{ A[A[1] = 2] = A[1] + 1; print A[1], A[2], A[3]; }":     "2 3 \n",
		"{ A[1] = 5; A[1] = (A[1] = 6) + A[1]; print A[1]; }":     "12\n",
		// Keys are texts.
		"{ A[1] = \"a\"; print A[\"1\"], A[1.0], A[$4], A[\"1.0\"], A[\"01\"], A[$5]; }": "a a a   \n",
		"{ A[\"\"] = 3; print A[x], A[\"\"], A[$9], A[0]; }":                             "3 3 3 \n",
		"{ A[1 / 3] = 3; print A[\"0.333333\"]; }":                                       "3\n",
		"{ A[-1] = 3; print A[\"-1\"], A[0 - 1]; }":                                      "3 3\n",
		"{ A[$0] = 3; print A[\"3 2.50 10a 1 01\"], A[\"3 2.50 10a 1 01 \"]; }":          "3 \n",
		"{ A[\"a\"] = 1; B[\"a\"] = 2; print A[\"a\"], B[\"a\"], C[\"a\"]; }":            "1 2 \n",
		"{ A[/3/] = 7; print A[1]; }":                                                    "7\n",
		"{ A[x = 4] = 7; print A[4], x; }":                                               "7 4\n",
		// What is asked for is not put.
		"{ print A[1], A[1] + 1, A[1]; }": " 1 \n",
	} {
		checkOut(t, src, "3 2.50 10a 1 01", want)
	}
	s := checkLines(t, "{ b = $2; d = 5; a = \"t\"; e = x; Z[2] = 1; A[3] = $1; A[\"\"]; print B[1]; }", []string{"3 2.50"}, "\n")
	checkState(t, "names are in their order", s, impl.State{Nr: 1, Vars: []impl.Val{valText("t"), valLook(2500000, "2.50"), num(5), valNone, valNone}, Cells: []impl.Cell{cellOf(0, "3", valLook(3*one, "3")), cellOf(2, "2", num(1))}})
	for src, want := range map[string]int{
		"{ x = 9000000; x += 0.000001; }": impl.ErNum, "{ x += 9000000; x += -9000000; x += -9000000; x += -1; }": impl.ErNum, "{ A[1] = 9000000; A[1] += 1; }": impl.ErNum, "{ A[1 / 0]; }": impl.ErZero, "{ A[1 / 0] += 1; }": impl.ErZero, "{ delete A[1 / 0]; }": impl.ErZero,
	} {
		checkWrong(t, src, "", want)
	}
	checkOut(t, "{ x = 8999999; x += 1; print x; x += -9000000; x += -9000000; print x; }", "", "9000000\n-9000000\n")
}

// TestLineKeys: a key has at most MaxText bytes, as all texts have from which it
// is made.
func TestLineKeys(t *testing.T) {
	k300 := strings.Repeat("k", 300)
	list := runnable(t, "{ A[$0] = 1; A[$1] += 1; print A[$0], A[$2]; }")
	s, out := lineOf(t, list, impl.Begin(list), k300+"x y")
	checkState(t, "a long key", s, impl.State{Nr: 1, Cells: []impl.Cell{cellOf(0, k300, num(2))}})
	if out != "2 \n" {
		t.Errorf("%q", out)
	}
	s, out = lineOf(t, list, s, k300)
	checkState(t, "the same key", s, impl.State{Nr: 2, Cells: []impl.Cell{cellOf(0, k300, num(2))}})
	if out != "2 \n" {
		t.Errorf("%q", out)
	}
	checkWrong(t, "{ A["+quoted("k", 301)+"] = 1; }", "", impl.ErLong)
	checkWrong(t, "{ A["+quoted("k", 150)+quoted("k", 151)+"] = 1; }", "", impl.ErLong)
	checkWrong(t, "{ delete A["+quoted("k", 301)+"]; }", "", impl.ErLong)
	checkOut(t, "{ A["+quoted("k", 300)+"] = 1; print A[$0]; delete A[$0]; print A[$0]; }", k300+"more", "1\n\n")
}

func TestLineDrops(t *testing.T) {
	checkOut(t, "{ A[1] = 5; A[2] = 6; B[1] = 7; delete A[1]; print A[1], A[2], B[1]; delete A[1]; delete A[3]; delete C[1]; print A[2]; }", "", " 6 7\n6\n")
	checkOut(t, "{ A[1] = 5; delete A[x += 1]; print A[1], x; }", "", " 1\n")
	checkOut(t, "{ A[1] = 5; delete A[$1]; print A[1] }", "1", "\n")
	s := checkLines(t, "$1 == \"put\" { A[$2] = NR; } $1 == \"drop\" { delete A[$2]; }", []string{"put b", "put a", "drop b", "put c", "drop none", "put a"}, "", "", "", "", "", "")
	checkState(t, "puts and drops", s, impl.State{Nr: 6, Cells: []impl.Cell{cellOf(0, "a", num(6)), cellOf(0, "c", num(4))}})
}

func TestLineRoom(t *testing.T) {
	fill := "i = 0; while (i < 39) { A[i] = i; i += 1; } "
	checkOut(t, "{ "+fill+"A[39] = 1; print A[39]; A[3] = 7; A[4] += 1; print A[3], A[4]; }", "", "1\n7 5\n")
	checkOut(t, "{ "+fill+"B[39] = 1; delete A[7]; B[40] = 1; print B[40], A[7]; }", "", "1 \n")
	checkOut(t, "{ "+fill+"B[39] = 1; print A[99], B[40] 1; }", "", " 1\n")
	for _, src := range []string{"A[40] = 1;", "B[1] = 1;", "A[40] += 1;", "A[\"\"] = x;", "print B[1] = 1;", "B[1] = 0;", "A[A[40] = 1] = 2;", "B[1] += 0;", "A[\"00\"] = 1;"} {
		checkOut(t, "{ "+fill+src+" }", "", map[bool]string{true: "1\n"}[strings.HasPrefix(src, "print")])
		checkWrong(t, "{ "+fill+"A[39] = 1; "+src+" }", "", impl.ErRoom)
	}
	checkWrong(t, "{ "+fill+"A[39] = 9000000; A[39] += 1; A[40] = 1; }", "", impl.ErNum)
	checkWrong(t, "{ "+fill+"A[39] = 9000000; A[40] = 1; A[39] += 1; }", "", impl.ErRoom)
	checkWrong(t, "{ "+fill+"A[39] = 1; A[40] = 1 / 0; }", "", impl.ErZero)
	// The room is of all lines together.
	list := runnable(t, "{ A[$1] = NR; }")
	s := impl.Begin(list)
	for i := range 40 {
		s, _ = lineOf(t, list, s, fmt.Sprintf("key%d", i))
	}
	if full, _ := lineOf(t, list, s, "key7"); full.Err != impl.ErNone || impl.CellGet(full, 0, "key7") != num(41) {
		t.Errorf("a key that is there: %s", shownState(full))
	}
	if full, _ := lineOf(t, list, s, "key40"); full.Err != impl.ErRoom {
		t.Errorf("one more: %s", shownState(full))
	}
}

func TestLineCalls(t *testing.T) {
	for e, want := range map[string]impl.Val{
		`length("")`: num(0), `length("abc")`: num(3), `length(x)`: num(0), `length(1.50)`: num(3), `length(-1)`: num(2), `length($0)`: num(7), `length($2)`: num(3), `length(A[1])`: num(0), `length("\"\\")`: num(2), `length(1 / 3)`: num(8), `length(1 2)`: num(2), "length(" + quoted("\xc3\xa9", 150) + ")": num(300),
		`int(2.5)`: num(2), `int(-2.5)`: num(-2), `int(0.999999)`: num(0), `int(-0.999999)`: num(0), `int(3)`: num(3), `int(x)`: num(0), `int("4.7x")`: num(4), `int("x")`: num(0), `int(9000000)`: valNum(top), `int(-9000000)`: valNum(-top), `int(8999999.999999)`: num(8999999), `int($2)`: num(-1), `int("")`: num(0),
		`upper("abcxyz")`: valText("ABCXYZ"), `upper("aZ19 .\"")`: valText("AZ19 .\""), `upper("@[` + "`" + `{")`: valText("@[`{"), "upper(\"\xe9\xc3\xa9\xff\")": valText("\xe9\xc3\xa9\xff"), `upper("")`: valText(""), `upper(x)`: valText(""), `upper(12)`: valText("12"), `upper($2)`: valText("-1."), `upper($1)`: valText("ABC"), "upper(\"\u0131\u017f\")": valText("\u0131\u017f"),
		`lower("ABCXYZ")`: valText("abcxyz"), `lower("aZ19 .")`: valText("az19 ."), `lower("@[` + "`" + `{")`: valText("@[`{"), "lower(\"\xc9\xc3\x89\")": valText("\xc9\xc3\x89"), `lower("")`: valText(""), `lower(1.50)`: valText("1.5"), "lower(\"\u212a\u0130\")": valText("\u212a\u0130"),
		`index("abc", "a")`: num(1), `index("abc", "c")`: num(3), `index("abc", "bc")`: num(2), `index("abc", "abc")`: num(1), `index("abc", "d")`: num(0), `index("abc", "abcd")`: num(0), `index("abc", "")`: num(1), `index("", "")`: num(1), `index("", "a")`: num(0), `index("abab", "b")`: num(2), `index("aab", "ab")`: num(2), `index(12345, 34)`: num(3), `index($0, " ")`: num(4), `index(x, x)`: num(1), `index("a1.5", 1.50)`: num(2), `index("abc", "B")`: num(0), "index(\"\xc3\xa9\", \"\xa9\")": num(2), `index($0, "1.")`: num(6), `index($0, $2)`: num(5), `index($0, ".")`: num(7), "index(" + quoted("a", 299) + `"b", "b")`: num(300),
		`substr("abcde", 2)`: valText("bcde"), `substr("abcde", 1)`: valText("abcde"), `substr("abcde", 5)`: valText("e"), `substr("abcde", 6)`: valText(""), `substr("abcde", 7)`: valText(""), `substr("abcde", 0)`: valText("abcde"), `substr("abcde", -3)`: valText("abcde"), `substr("abcde", 9000000)`: valText(""), `substr("abcde", -9000000)`: valText("abcde"),
		`substr("abcde", 2, 3)`: valText("bcd"), `substr("abcde", 1, 5)`: valText("abcde"), `substr("abcde", 1, 6)`: valText("abcde"), `substr("abcde", 1, 4)`: valText("abcd"), `substr("abcde", 5, 1)`: valText("e"), `substr("abcde", 5, 9)`: valText("e"), `substr("abcde", 6, 1)`: valText(""), `substr("abcde", 2, 0)`: valText(""), `substr("abcde", 2, -1)`: valText(""), `substr("abcde", 0, 3)`: valText("ab"), `substr("abcde", 0, 1)`: valText(""), `substr("abcde", -1, 3)`: valText("a"), `substr("abcde", -1, 2)`: valText(""), `substr("abcde", -1, 100)`: valText("abcde"), `substr("abcde", -9000000, 9000000)`: valText(""), `substr("abcde", -8999998, 9000000)`: valText("a"), `substr("abcde", 9000000, 9000000)`: valText(""), `substr("abcde", 1, 9000000)`: valText("abcde"), `substr("abcde", 3, -9000000)`: valText(""),
		`substr("abcde", 2.9, 2.9)`: valText("bc"), `substr("abcde", -0.9, 2.9)`: valText("a"), `substr("abcde", 0.9)`: valText("abcde"), `substr("abcde", 2, 0.9)`: valText(""), `substr("abcde", "2x", "1y")`: valText("b"), `substr("abcde", x)`: valText("abcde"), `substr("abcde", 1, x)`: valText(""), `substr("abcde", x, 2)`: valText("a"), `substr(12345, 2, 2)`: valText("23"), `substr(x, 1, 1)`: valText(""), `substr("", 1)`: valText(""), `substr($0, 3, 3)`: valText("c -"), `substr($2, 2, 1)`: valText("1"), "substr(\"\xc3\xa9\", 2)": valText("\xa9"),
		`length(upper("ab") lower("CD"))`: num(4), `index(upper($1), "B")`: num(2), `substr($1, index($1, "b"), length($1))`: valText("bc"),
	} {
		checkValue(t, e, "abc -1.", want)
	}
	for call, want := range map[string]string{"upper": strings.ToUpper("abcdefghijklmnopqrstuvwxyz"), "lower": "abcdefghijklmnopqrstuvwxyz"} {
		for b := range 256 {
			s := string([]byte{byte(b)})
			by := s
			if i := strings.Index("abcdefghijklmnopqrstuvwxyz", s); i >= 0 && call == "upper" {
				by = want[i : i+1]
			} else if i := strings.Index("ABCDEFGHIJKLMNOPQRSTUVWXYZ", s); i >= 0 && call == "lower" {
				by = want[i : i+1]
			}
			// A byte that is a letter behind it shows whether bytes stay bytes.
			list := []impl.Rule{doRule(twoOf(impl.NdSet, ndVar("x"), ndNamed(impl.NdCall, call, ndOf(impl.NdField, ndNum(0)))))}
			if got, _ := lineOf(t, list, impl.Begin(list), s+"1"+s); impl.ToText(got.Vars[0]) != by+"1"+by {
				t.Errorf("%s(%q) = %q", call, s+"1"+s, got.Vars[0].S)
			}
		}
	}
}

func TestLinePrints(t *testing.T) {
	for src, want := range map[string]string{
		"{ print; }": "a  b\n", "{ print $0; }": "a  b\n", "{ print 1; }": "1\n", "{ print 1, 2; }": "1 2\n", "{ print 1, 2, 3; }": "1 2 3\n", "{ print \"\"; }": "\n", "{ print x; }": "\n", "{ print x, x; }": " \n", "{ print x, x, x; }": "  \n", "{ print \"a\" \"b\"; }": "ab\n", "{ print $2, $1; }": "b a\n", "{ print 1; print 2; }": "1\n2\n", "{ print; print; }": "a  b\na  b\n", "{ print 1.50, -0.25, 1 / 3; }": "1.5 -0.25 0.333333\n", "1": "a  b\n", "0": "", "/a/": "a  b\n", "/c/": "", "{ }": "", "": "", "{ 1; x; }": "", "NF == 2": "a  b\n", "1 { }": "",
		"{ print \" \"; }": " \n", "{ print (1 < 2), (2 < 1); }": "1 0\n", "{ print A[1]; }": "\n", "{ print -$1; }": "0\n",
	} {
		checkOut(t, src, "a  b", want)
	}
	checkOut(t, "{ print; }", "", "\n")
	checkOut(t, "{ print; print $1, $2; }", "\x00\xff\n ", "\x00\xff\n \n\x00\xff\n \n")
	checkLines(t, "{ print NR, NF, $0; }", []string{"", "a", " a b ", "007"}, "1 0 \n", "2 1 a\n", "3 2  a b \n", "4 1 007\n")
}

// TestLineOutLimit: MaxOut bytes for a line, whatever other lines put out.
func TestLineOutLimit(t *testing.T) {
	a, b := quoted("a", 299), quoted("b", 300)
	t299, t300 := strings.Repeat("a", 299), strings.Repeat("b", 300)
	for src, want := range map[string]string{
		"print " + a + "; print " + a + ";":                       t299 + "\n" + t299 + "\n",
		"print " + b + ", " + quoted("a", 298) + ";":              t300 + " " + t299[1:] + "\n",
		"print " + b + "; print " + quoted("a", 297) + "; print;": t300 + "\n" + t299[2:] + "\n\n",
	} {
		if len(want) != impl.MaxOut {
			t.Fatalf("%d bytes", len(want))
		}
		checkLines(t, "{ "+src+" }", []string{"", "", ""}, want, want, want)
		checkOut(t, "{ "+src+" } NR == 2 { print; }", "", want)
		checkOut(t, "BEGIN { print \"\"; } { "+src+" }", "", want)
		checkWrong(t, "{ "+src+" print \"\"; }", "", impl.ErOut)
		checkWrong(t, "{ print \"\"; "+src+" }", "", impl.ErOut)
		checkWrong(t, "{ "+src+" } { x = 1; } NR == 1 { print; }", "", impl.ErOut)
	}
	for _, src := range []string{"print " + b + ", " + a + ";", "print " + b + ", " + b + ";", "print " + b + "; print " + a + ";", "while (1) { print; }", "while (1) { print 1; }", "print " + a + ", \"\", " + a + ", x;", "print " + a + "; print " + a + ", x;"} {
		checkWrong(t, "{ "+src+" }", "", impl.ErOut)
		checkWrong(t, "{ "+src+" x = 1 / 0; }", "", impl.ErOut)
		checkWrong(t, "{ x = 1 / 0; "+src+" }", "", impl.ErZero)
	}
	for size := 590; size <= 605; size++ {
		list := []impl.Rule{allRule(slices.Repeat([]impl.Node{ndOf(impl.NdPrint, ndText(""))}, size)...)}
		s, out := lineOf(t, list, impl.Begin(list), "")
		if want := strings.Repeat("\n", size); size <= 600 && (out != want || s.Err != impl.ErNone) || size > 600 && s.Err != impl.ErOut {
			t.Errorf("%d bytes: Err %d, %d bytes", size, s.Err, len(out))
		}
		if begin := impl.BeginOut([]impl.Rule{{Kind: impl.RlBegin, Body: list[0].Body}}); len(begin) != map[bool]int{true: size}[size <= 600] {
			t.Errorf("%d bytes of BEGIN: %d", size, len(begin))
		}
	}
}

func TestLineBranches(t *testing.T) {
	for src, want := range map[string]string{
		"{ if (1) { print 1; } print 2; }": "1\n2\n", "{ if (0) { print 1; } print 2; }": "2\n", "{ if (1) { print 1; } else { print 3; } }": "1\n", "{ if (0) { print 1; } else { print 3; } }": "3\n", "{ if (x) { print 1; } else { } }": "", "{ if ($1) { print 1; } }": "1\n", "{ if ($2) { print 1; } else { print 0; } }": "0\n", "{ if (\"0\") { print 1; } }": "1\n", "{ if (0.000001) { print 1; } }": "1\n", "{ if (/a/) { print 1; } }": "1\n",
		"{ if (x = 3) { print x; } else { x = 4; } print x; }": "3\n3\n", "{ if (x = 0) { print x; } else { x = 4; } print x; }": "4\n", "{ if (1) { if (0) { print 1; } else { print 2; } } else { print 3; } }": "2\n",
		"{ while (i < 3) { print i; i += 1; } print i; }": "\n1\n2\n3\n", "{ while (0) { print 1; } }": "", "{ while (x) { print 1; } print 2; }": "2\n", "{ i = 3; while (i) { print i; i += -1; } }": "3\n2\n1\n", "{ while (i < 2) { j = 0; while (j < 2) { print i + 0, j; j += 1; } i += 1; } }": "0 0\n0 1\n1 0\n1 1\n", "{ while ((i += 1) < 3) { } print i; }": "3\n", "{ s = \"x\"; while (length(s) < 4) { s = s s; } print s; }": "xxxx\n", "{ i = 1; while (i <= NF) { s = $i s; i += 1; } print s; }": "0a\n",
		"{ { print 1; { print 2; } } { } print 3; }": "1\n2\n3\n", "{ ; ; }": "",
		"{ print 1; next; print 2; }": "1\n", "{ next; } { print 1; }": "", "{ print 1; next; } { print 2; } 1": "1\n", "{ if (1) { next; } print 1; } { print 2; }": "", "{ if (0) { next; } print 1; } { print 2; }": "1\n2\n", "{ if (0) { } else { print 0; next; } print 1; } 1": "0\n", "{ while (1) { i += 1; if (i == 3) { next; } print i; } print 9; } 1": "1\n2\n", "{ while (1) { next; } }": "", "{ { next; } print 1; } 1": "", "/a/ { next; } { print 1; }": "", "/b/ { next; } { print 1; }": "1\n", "{ while (1) { while (1) { { if (1) { next; } } } } print 1; }": "",
		"{ print 1; } 1 { print 2; } 0 { print 3; } /a/ { print 4; } /b/ { print 5; } $1 { print 6; } $2 { print 7; } x { print 8; } \"x\" { print 9; } \"\" { print 10; }": "1\n2\n4\n6\n9\n", "x = 5 { print x; } x == 5 { x += 1; } x == 6 { print x; }": "5\n6\n", "(x = 0) { print x; } x == 0 { print \"z\"; }": "z\n",
	} {
		checkOut(t, src, "a 0", want)
	}
	// What a line that ends early has done stays.
	s := checkLines(t, "{ x += 1; A[x] = NR; print x; if (x == 2) { next; } x += 10; } { y = x; }", []string{"", "", ""}, "1\n", "12\n", "23\n")
	checkState(t, "behind next", s, impl.State{Nr: 3, Vars: []impl.Val{num(33), num(33)}, Cells: []impl.Cell{cellOf(0, "1", num(1)), cellOf(0, "12", num(2)), cellOf(0, "23", num(3))}})
	s = checkLines(t, "{ x += 1; A[x] = NR; print x; next; } { y = x; }", []string{"", ""}, "1\n", "2\n")
	checkState(t, "behind next", s, impl.State{Nr: 2, Vars: []impl.Val{num(2), valNone}, Cells: []impl.Cell{cellOf(0, "1", num(1)), cellOf(0, "2", num(2))}})
}

func TestBegin(t *testing.T) {
	type beginCase struct {
		src string
		out string
		s   impl.State
	}
	for _, c := range []beginCase{
		{"", "", impl.State{}},
		{"{ print; }", "", impl.State{}},
		{"{ x = 1; y[2] = 3; }", "", impl.State{Vars: []impl.Val{valNone}}},
		{"{ h; g; f; e; d; c; b; a; }", "", impl.State{Vars: make([]impl.Val, 8)}},
		{"BEGIN { }", "", impl.State{}},
		{"BEGIN { print 1; print \"a\", 2; }", "1\na 2\n", impl.State{}},
		{"BEGIN { print; }", "\n", impl.State{}},
		{"BEGIN { x = 1; A[\"k\"] = \"v\"; print x; } { y = 2; }", "1\n", impl.State{Vars: []impl.Val{num(1), valNone}, Cells: []impl.Cell{cellOf(0, "k", valText("v"))}}},
		{"BEGIN { while (i < 3) { i += 1; B[i] = i * i; } delete B[2]; A[1] = \"ab\" ~ /b/; if (i == 3) { print \"three\"; } else { print 0; } } { print; }", "three\n", impl.State{Vars: []impl.Val{num(3)}, Cells: []impl.Cell{cellOf(0, "1", num(1)), cellOf(1, "1", num(1)), cellOf(1, "3", num(9))}}},
		{"BEGIN { print 1; x = 1 / 0; }", "", impl.State{Vars: make([]impl.Val, 1), Err: impl.ErZero}},
		{"BEGIN { x = 5; A[1] = 2; print 1; x = 9000000 + x; } { y; }", "", impl.State{Vars: make([]impl.Val, 2), Err: impl.ErNum}},
		{"BEGIN { x = " + quoted("a", 301) + "; }", "", impl.State{Vars: make([]impl.Val, 1), Err: impl.ErLong}},
		{"BEGIN { while (1) { i += 1; A[i] = i; } }", "", impl.State{Vars: make([]impl.Val, 1), Err: impl.ErRoom}},
		{"BEGIN { while (1) { print 1; } }", "", impl.State{Err: impl.ErOut}},
		{"BEGIN { while (1) { } }", "", impl.State{Err: impl.ErFuel}},
	} {
		list := runnable(t, c.src)
		checkState(t, fmt.Sprintf("Begin of %.200q", c.src), impl.Begin(list), c.s)
		if out := impl.BeginOut(list); out != c.out {
			t.Errorf("BeginOut of %.200q = %q, want %q", c.src, out, c.out)
		}
	}
	// Lines begin behind it, and do not run it; one that went wrong has none.
	checkLines(t, "BEGIN { n = 10; print \"begin\"; } { n += 1; print NR, n; }", []string{"a", "b"}, "1 11\n", "2 12\n")
	checkLines(t, "BEGIN { A[\"a\"] = 5; } A[$1] { print $1, A[$1]; } { A[$1] += 1; }", []string{"a", "b", "b", "a"}, "a 5\n", "", "b 1\n", "a 6\n")
	list := runnable(t, "BEGIN { x = 1 / 0; } { print; }")
	if s, out := lineOf(t, list, impl.Begin(list), "a"); s.Err != impl.ErZero || s.Nr != 0 || out != "" {
		t.Errorf("a line behind a BEGIN that went wrong: %s, %q", shownState(s), out)
	}
}

func TestLineNumber(t *testing.T) {
	list := runnable(t, "{ x = NR; print NR; }")
	for _, nr := range []int{0, 1, 2, 500000, 999998, 999999} {
		s := impl.State{Vars: []impl.Val{num(7)}, Nr: nr}
		got, out := lineOf(t, list, s, "a")
		checkState(t, "a line", got, impl.State{Vars: []impl.Val{valNum((nr + 1) * one)}, Nr: nr + 1})
		if out != fmt.Sprintln(nr+1) {
			t.Errorf("line %d: %q", nr+1, out)
		}
	}
	s := impl.State{Vars: []impl.Val{num(7)}, Nr: impl.MaxLines}
	for _, src := range []string{"{ x = NR; print NR; }", "{ x = 1 / 0; }", "{ x; while (1) { } }", "0 { x = 1; }", "{ next; } { x = 2; }"} {
		got, out := lineOf(t, runnable(t, src), s, "a")
		checkState(t, "a line too many", got, impl.State{Vars: s.Vars, Nr: impl.MaxLines, Err: impl.ErNum})
		if out != "" {
			t.Errorf("a line too many puts out %q", out)
		}
	}
	if got, _ := lineOf(t, nil, impl.State{Nr: impl.MaxLines}, ""); got.Err != impl.ErNum {
		t.Errorf("a line too many of no rules: %s", shownState(got))
	}
	if got, out := lineOf(t, nil, impl.State{Nr: 3}, "a"); !sameState(got, impl.State{Nr: 4}) || out != "" {
		t.Errorf("a line of no rules: %s, %q", shownState(got), out)
	}
}

// nothings are so many nodes, each a statement of which nothing is done.
func nothings(count int) []impl.Node { return slices.Repeat([]impl.Node{ndBlock()}, count) }

// checkFuel asks for how many nodes some statements begin: beside as many others
// as there is fuel left for they go, with one more they do not.
func checkFuel(t *testing.T, what string, statements []impl.Node, cost int) {
	t.Helper()
	for more, code := range []int{impl.ErNone, impl.ErFuel} {
		rest := nothings(impl.MaxFuel - cost + more)
		for _, list := range [][]impl.Rule{
			{allRule(append(slices.Clone(rest), statements...)...)}, {allRule(append(slices.Clone(statements), rest...)...)}, {allRule(rest...), allRule(statements...)},
			{allRule(append(slices.Clone(statements), rest[1:]...)...), {Kind: impl.RlSome, Pat: ndNum(0), Body: ndBlock(rest...)}},
		} {
			if s, _ := lineOf(t, list, impl.Begin(list), "a b"); s.Err != code {
				t.Errorf("%s: Err %d, want %d", what, s.Err, code)
			}
		}
	}
}

func TestLineFuel(t *testing.T) {
	for src, cost := range map[string]int{
		"": 0, "{ }": 1, "{ { } }": 2, "{ } { }": 2, "print": 1, "print 1": 2, "print 1, x, $1": 5,
		"1": 2, `"a"`: 2, "x": 2, "/a/": 2, "NR": 2, "NF": 2, "$1": 3, "$$1": 4, "A[1]": 3, "A[A[1]]": 4, "-x": 3, "!x": 3, "!!x": 4,
		"x = 1": 3, "x += 1": 3, "A[1] = 2": 4, "A[1] += 2": 4, "x = y = 1": 4, "A[x = 1] = 2": 5, "A[B[1]] = A[2]": 6, "delete A[1]": 2, "delete A[A[1]]": 3,
		"x + 1": 4, "x - 1": 4, "x * 1": 4, "x / 1": 4, "x % 1": 4, "x 1": 4, "x < 1": 4, "x <= 1": 4, "x > 1": 4, "x >= 1": 4, "x == 1": 4, "x != 1": 4, "1 + 2 + 3": 6,
		"x ~ /a/": 3, "x !~ /a/": 4, "/a/ ~ /a/": 3, "x ~ /a/ ~ /b/": 4, "(x = 1) ~ /a/": 4,
		"0 && x": 3, "1 && x": 4, "1 || x": 3, "0 || x": 4, "0 && 1 && 2": 4, "1 && 1 && 2": 6, "1 || x || y": 4,
		"length(x)": 3, "int(1 + 2)": 5, "upper(x)": 3, "lower(x)": 3, "index(x, 1)": 4, "substr(x, 1)": 4, "substr(x, 1, 2)": 5,
		"if (0) { x }": 2, "if (1) { }": 2, "if (1) { x }": 4, "if (1) { x } else { x; x }": 4, "if (0) { x } else { x; x }": 6, "if (x = 1) { { print } }": 5,
		"while (0) { x }": 2, "while (x) { x }": 2, "while (i < 1) { i += 1 }": 1 + 3 + 3 + 3, "while (i < 3) { i += 1 }": 1 + 4*3 + 3*3, "while ((i += 1) < 5) { }": 1 + 5*4, "while (i < 2) { i += 1; while (0) { } if (0) { } { } }": 1 + 3*3 + 2*(3+2+2+1),
		"x; y; A[1] = $2; print": 2 + 2 + 5 + 1,
	} {
		checkFuel(t, src, runnable(t, "{ "+src+" }")[0].Body.Kids, cost)
	}
	// Pat is an e too, whether or not it is Truth; a body is none.
	for src, cost := range map[string]int{"0": 1, "1 { }": 1, "x": 1, "1": 2, "x + 1 == 2": 5, "/a/": 2, "/b/ { } { }": 1, "1 { next; }": 2, "1 { print; x; }": 4} {
		rules := runnable(t, src)
		for more, code := range []int{impl.ErNone, impl.ErFuel} {
			rest := allRule(nothings(impl.MaxFuel - cost + more)...)
			if s, _ := lineOf(t, append([]impl.Rule{rest}, rules...), impl.Begin(rules), "a"); s.Err != code {
				t.Errorf("%s: Err %d, want %d", src, s.Err, code)
			}
		}
	}
	// What is not begun takes none: behind NdNext, and of other lines.
	list := []impl.Rule{allRule(append(nothings(impl.MaxFuel-1), ndOf(impl.NdNext), ndOf(impl.NdPrint))...), doRule(ndNum(0)), someRule(ndNum(one))}
	s := impl.Begin(list)
	for range 4 {
		if s, _ = lineOf(t, list, s, "a"); s.Err != impl.ErNone {
			t.Errorf("behind NdNext: %s", shownState(s))
		}
	}
	list = []impl.Rule{beginRule(nothings(impl.MaxFuel)...), allRule(nothings(impl.MaxFuel)...)}
	if s, _ = lineOf(t, list, impl.Begin(list), "a"); s.Err != impl.ErNone {
		t.Errorf("BEGIN takes fuel of a line: %s", shownState(s))
	}
	list[0].Body = ndBlock(nothings(impl.MaxFuel + 1)...)
	if s = impl.Begin(list); s.Err != impl.ErFuel {
		t.Errorf("BEGIN has more fuel: %s", shownState(s))
	}
}

// TestLineFuelFirst: a node counts when it begins, ahead of what goes wrong there.
func TestLineFuelFirst(t *testing.T) {
	do := func(e impl.Node) impl.Node { return ndOf(impl.NdDo, e) }
	one1, zero := ndNum(one), ndNum(0)
	for what, c := range map[string]struct {
		last impl.Node
		cost int
		code int
	}{
		"a quotient":   {do(twoOf(impl.NdDiv, one1, zero)), 4, impl.ErZero},
		"a rest":       {do(twoOf(impl.NdMod, one1, zero)), 4, impl.ErZero},
		"a sum":        {do(twoOf(impl.NdAdd, ndNum(top), one1)), 4, impl.ErNum},
		"a text":       {do(ndText(strings.Repeat("a", 301))), 2, impl.ErLong},
		"a row":        {do(twoOf(impl.NdCat, ndText(strings.Repeat("a", 300)), one1)), 4, impl.ErLong},
		"a print":      {ndOf(impl.NdPrint, slices.Repeat([]impl.Node{ndText(strings.Repeat("a", 200))}, 3)...), 4, impl.ErOut},
		"within a key": {do(twoOf(impl.NdSet, ndNamed(impl.NdCell, "A", ndText(strings.Repeat("a", 301))), one1)), 3, impl.ErLong},
	} {
		for more := range 6 {
			list := []impl.Rule{allRule(append(nothings(impl.MaxFuel-c.cost+more), c.last)...)}
			want := c.code
			if more > 0 {
				want = impl.ErFuel
			}
			if s, _ := lineOf(t, list, impl.Begin(list), "a"); s.Err != want {
				t.Errorf("%s with %d too many: Err %d, want %d", what, more, s.Err, want)
			}
		}
	}
	for _, src := range []string{"{ while (1) { } }", "{ while (1) { x += 1; } }", "{ while (1) { while (1) { y = 1; } } }", "{ while (1) { if (0) { next; } } }", "{ while (1) { A[1] = x; x = 1; } }", "{ while (i < 1000) { i += 1; } }", "{ while (/a/) { delete A[1]; } }"} {
		checkWrong(t, src, "a", impl.ErFuel)
	}
	checkOut(t, "{ while (i < 499) { i += 1; } print i; }", "", "499\n")
}

// TestWrongStaysSo is promise 12: a state in which something went wrong is as it
// was behind any line, and nothing is put out.
func TestWrongStaysSo(t *testing.T) {
	lines := []string{"", "a", "0", "1 2 3", strings.Repeat("x ", 400), "\xff\n"}
	for src, c := range map[string]struct{ good, bad string }{
		"{ x += 1; A[$1] = x; print x, 1 / $1; }":           {"1", "0"},
		"{ x = 8999999; A[1] = 1; x += $1; print x; }":      {"1", "1.5"},
		"{ x = $0 $0; A[1] = x; print x; }":                 {"a", strings.Repeat("a", 151)},
		"{ while (x < NF) { x += 1; A[x] = 1; print; } }":   {"a", strings.Repeat("a ", 41)},
		"{ while (x < NF) { x += 1; print x; } A[x] = 1; }": {"a", strings.Repeat("a ", 300)},
		"{ x += 1; while (NF) { A[1] = x; } }":              {"", "a"},
	} {
		list := runnable(t, src)
		s, _ := lineOf(t, list, impl.Begin(list), c.good)
		if s.Err != impl.ErNone || s.Nr != 1 {
			t.Errorf("%s with %q goes wrong: %s", src, c.good, shownState(s))
		}
		wrong, out := lineOf(t, list, s, c.bad)
		if wrong.Err == impl.ErNone || out != "" {
			t.Errorf("%s with %.80q goes well: %q", src, c.bad, out)
		}
		s.Err = wrong.Err
		checkState(t, "what went wrong", wrong, s)
		now := wrong
		for _, line := range append(lines, c.good, c.bad) {
			now, out = lineOf(t, list, now, line)
			checkState(t, "what went wrong, some lines behind", now, wrong)
			if out != "" {
				t.Errorf("%s puts out %q behind what went wrong", src, out)
			}
		}
	}
	list := runnable(t, "{ x = 1; A[1] = 2; print; }")
	for code := impl.ErNum; code <= impl.ErStack; code++ {
		for _, nr := range []int{0, 5, impl.MaxLines} {
			s := impl.State{Vars: []impl.Val{valText("as it was")}, Cells: []impl.Cell{cellOf(0, "k", num(3))}, Nr: nr, Err: code}
			for _, line := range lines {
				got, out := impl.Line(list, s, line)
				checkState(t, "a state with Err", got, s)
				if out != "" {
					t.Errorf("Err %d, but %q is put out", code, out)
				}
			}
		}
	}
}

// TestLineNotDone: rules that may not run, whatever the state is.
func TestLineNotDone(t *testing.T) {
	states := append(rightStates(), wrongStates()...)
	refused := func(list []impl.Rule) {
		t.Helper()
		checkState(t, "Begin of what may not run", impl.Begin(list), impl.State{Err: impl.ErStack})
		if out := impl.BeginOut(list); out != "" {
			t.Errorf("BeginOut of what may not run: %q", out)
		}
		for _, c := range states {
			got, out := impl.Line(list, c.s, "a line")
			checkState(t, "Line of what may not run", got, c.s)
			if out != "" {
				t.Errorf("Line of what may not run puts out %q", out)
			}
		}
	}
	print1 := ndOf(impl.NdPrint, ndNum(one))
	for code := impl.CkTidy; code <= impl.CkRex; code++ {
		for _, r := range faults()[code] {
			refused([]impl.Rule{beginRule(print1), allRule(print1), r})
		}
	}
	for _, r := range []impl.Rule{{}, {Kind: impl.RlAll}, {Kind: impl.RlBegin}, {Kind: -1, Body: ndBlock(print1)}, {Kind: impl.RlSome, Body: ndBlock(print1)}, {Kind: impl.RlBegin, Pat: ndNum(1), Body: ndBlock(print1)}, allRule(ndOf(99)), allRule(ndOf(impl.NdIf)), allRule(ndOf(impl.NdWhile, ndNum(one))), doRule(ndOf(impl.NdAdd)), doRule(ndOf(impl.NdSet, ndNum(1), ndNum(1))), doRule(ndNamed(impl.NdCall, "none", ndNum(1))), doRule(ndNum(-one)), doRule(ndNum(top + 1)), doRule(ndText("\n"))} {
		refused([]impl.Rule{r})
		refused([]impl.Rule{beginRule(print1), r})
	}
	kids := make([]impl.Node, 2)
	kids[0] = impl.Node{Op: impl.NdWhile, Kids: kids}
	kids[1] = impl.Node{Op: impl.NdBlock, Kids: kids}
	refused([]impl.Rule{allRule(kids...)})
	// Just as deep as trees may be.
	for what, way := range wraps() {
		if strings.Contains(what, fmt.Sprint(impl.NdFits)) || what == "last" || what == "cell" {
			continue
		}
		list := []impl.Rule{someRule(wrapped(ndNum(one), impl.MaxTree, way, wraps()["minus"]))}
		if got, _ := lineOf(t, list, impl.Begin(list), ""); impl.Check(list) != impl.CkDone || got.Err == impl.ErFuel {
			t.Errorf("%s: %s", what, shownState(got))
		}
	}
}

// programWith names so many vars and lists, and prints the first ones.
func programWith(vars int, lists int) []impl.Rule {
	n := ndOf(impl.NdPrint)
	for i := range vars {
		n.Kids = append(n.Kids, ndVar(string(rune('a'+i))))
	}
	for i := range lists {
		n.Kids = append(n.Kids, ndNamed(impl.NdCell, string(rune('A'+i)), ndText("a")))
	}
	return []impl.Rule{beginRule(ndOf(impl.NdPrint)), allRule(n, ndOf(impl.NdPrint))}
}

func TestLineStates(t *testing.T) {
	asked := 0
	for _, c := range wrongStates() {
		if c.vars < 0 || c.vars > impl.MaxNames || c.lists < 0 || c.lists > impl.MaxNames {
			continue
		}
		asked++
		got, out := impl.Line(programWith(c.vars, c.lists), c.s, "a")
		checkState(t, "Line of a state that is not right", got, c.s)
		if out != "" {
			t.Errorf("%s puts out %q", shownState(c.s), out)
		}
	}
	for _, c := range rightStates() {
		if c.vars > impl.MaxNames || c.lists < 0 || c.lists > impl.MaxNames {
			continue
		}
		asked++
		want, text := c.s, ""
		switch {
		case c.s.Err != impl.ErNone:
		case c.s.Nr == impl.MaxLines:
			want.Err = impl.ErNum
		default:
			want.Nr++
			var parts []string
			for _, v := range c.s.Vars {
				parts = append(parts, byText(v))
			}
			for i := range c.lists {
				parts = append(parts, byText(impl.CellGet(c.s, i, "a")))
			}
			text = strings.Join(parts, " ") + "\na\n"
			if len(parts) == 0 {
				text = "a\na\n"
			}
		}
		got, out := impl.Line(programWith(c.vars, c.lists), c.s, "a")
		checkState(t, "Line of a state that is right", got, want)
		if out != text {
			t.Errorf("%s puts out %q, want %q", shownState(c.s), out, text)
		}
	}
	if asked < 100 {
		t.Errorf("only %d states", asked)
	}
	// As many names as the program has, not as many as it uses.
	list := runnable(t, "0 { a; b; } { A[1]; B[1] = 2; }")
	for vars := range 4 {
		s := impl.State{Vars: make([]impl.Val, vars)}
		got, _ := impl.Line(list, s, "")
		if isRight := got.Nr == 1; isRight != (vars == 2) {
			t.Errorf("%d vars: %s", vars, shownState(got))
		}
	}
	for name := -1; name < 4; name++ {
		s := impl.State{Vars: make([]impl.Val, 2), Cells: []impl.Cell{cellOf(name, "a", num(1))}}
		got, _ := impl.Line(list, s, "")
		if isRight := got.Nr == 1; isRight != (name == 0 || name == 1) {
			t.Errorf("a cell of list %d: %s", name, shownState(got))
		}
	}
}

// TestLineWritesNothing: neither into what is handed in nor behind it; what is
// told is memory of its own, and the same each time.
func TestLineWritesNothing(t *testing.T) {
	var programs [][]impl.Rule
	for _, src := range []string{
		"BEGIN { x = 1; A[1] = k; print x; } { x += 1; A[$1] = x; delete A[k]; B[NR] = $0; print; }", "{ k = x; B[2] = 3; A[1] = 1 / 0; }", "{ x; k; A[1]; B[1]; }", "{ x = k; delete A[\"k05\"]; delete B[\"k25\"]; }", "{ x; k; A[1]; B[1]; next; }", "0 { x = k; A[1] = B[1]; }", "{ x = k = 1; A[\"k05\"] += 1; B[\"k21\"] = 3; }",
	} {
		programs = append(programs, runnable(t, src))
	}
	for _, rules := range faults() {
		programs = append(programs, append([]impl.Rule{beginRule(ndOf(impl.NdPrint))}, rules...))
	}
	for i, rules := range programs {
		list := roomyRules(rules)
		shown := withRoomShown(list)
		for _, cells := range []int{0, 1, 30, 39, 40} {
			for k := range 9 {
				s := impl.State{Vars: []impl.Val{valText("first"), num(2)}, Cells: manyCells(cells), Nr: []int{3, -1, impl.MaxLines}[k%3], Err: k / 3 % 3 * 4}
				cut, whole := roomyState(s)
				before := whole
				before.Vars, before.Cells = slices.Clone(whole.Vars), slices.Clone(whole.Cells)
				got, out := impl.Line(list, cut, "k03 b")
				again, more := impl.Line(list, cut, "k03 b")
				checkState(t, "what was handed in", whole, before)
				checkState(t, "Line once more", again, got)
				if out != more {
					t.Errorf("program %d puts out %q, then %q", i, out, more)
				}
				kept := again
				kept.Vars, kept.Cells = slices.Clone(again.Vars), slices.Clone(again.Cells)
				spoilt(got)
				checkState(t, "what was handed in", whole, before)
				checkState(t, "what was told", again, kept)
				spoilt(cut)
				checkState(t, "what was told", again, kept)
			}
		}
		first, out := impl.Begin(list), impl.BeginOut(list)
		kept := impl.Begin(list)
		checkState(t, "Begin once more", kept, first)
		spoilt(first)
		checkState(t, "Begin, spoilt", impl.Begin(list), kept)
		if out != impl.BeginOut(list) || withRoomShown(list) != shown {
			t.Errorf("program %d: something is written into the rules", i)
		}
	}
}

// TestLineSoon: trees that nobody could go all ways through, and lines that are
// very long.
func TestLineSoon(t *testing.T) {
	wide := func(leaf impl.Node, deep int) impl.Node {
		for range deep {
			leaf = ndBlock(slices.Repeat([]impl.Node{leaf}, 100)...)
		}
		return leaf
	}
	do := ndOf(impl.NdDo, ndNum(one))
	for what, c := range map[string]struct {
		body impl.Node
		code int
	}{
		"many ways":              {wide(do, impl.MaxTree-2), impl.ErFuel},
		"many ways, wrong":       {wide(ndOf(impl.NdDo, twoOf(impl.NdDiv, do.Kids[0], ndNum(0))), impl.MaxTree-3), impl.ErZero},
		"many ways, ended":       {wide(ndOf(impl.NdNext), impl.MaxTree-2), impl.ErNone},
		"many ways behind a 0":   {ndBlock(ndOf(impl.NdIf, ndNum(0), wide(do, impl.MaxTree-4))), impl.ErNone},
		"many ways, all printed": {wide(ndOf(impl.NdPrint), impl.MaxTree-2), impl.ErOut},
		"many es":                {ndBlock(ndOf(impl.NdPrint, slices.Repeat([]impl.Node{ndText("")}, 1000000)...)), impl.ErOut},
		"many statements":        {ndBlock(slices.Repeat([]impl.Node{do}, 1000000)...), impl.ErFuel},
	} {
		list := []impl.Rule{{Kind: impl.RlAll, Body: c.body}}
		if s, _ := lineOf(t, list, impl.Begin(list), "a"); s.Err != c.code {
			t.Errorf("%s: Err %d, want %d", what, s.Err, c.code)
		}
	}
	many := slices.Repeat([]impl.Rule{someRule(ndNum(0))}, 3001)
	if s, _ := lineOf(t, many, impl.Begin(many), "a"); s.Err != impl.ErFuel {
		t.Errorf("many rules: %s", shownState(s))
	}
	if s, _ := lineOf(t, many[1:], impl.Begin(many), "a"); s.Err != impl.ErNone {
		t.Errorf("many rules, as many as there may be: %s", shownState(s))
	}
	many = slices.Repeat([]impl.Rule{allRule()}, 100000)
	if s, _ := lineOf(t, many, impl.Begin(many), "a"); s.Err != impl.ErNone {
		t.Errorf("many rules of nothing: %s", shownState(s))
	}
	checkOut(t, "/b$/ { print NF, length($0), $2; }", strings.Repeat("a ", 1000000)+"b", "1000001 300 a\n")
}
