package tests

import (
	"fmt"
	"math"
	"regexp"
	"slices"
	"strings"
	"testing"

	"loop.example/g00289/impl"
)

func ndOf(op int, kids ...impl.Node) impl.Node { return impl.Node{Op: op, Kids: kids} }

func ndNamed(op int, s string, kids ...impl.Node) impl.Node {
	return impl.Node{Op: op, S: s, Kids: kids}
}

func ndNum(n int) impl.Node     { return impl.Node{Op: impl.NdNum, N: n} }
func ndText(s string) impl.Node { return ndNamed(impl.NdText, s) }
func ndRex(s string) impl.Node  { return ndNamed(impl.NdRex, s) }
func ndVar(s string) impl.Node  { return ndNamed(impl.NdVar, s) }

func ndBlock(statements ...impl.Node) impl.Node { return ndOf(impl.NdBlock, statements...) }

func beginRule(statements ...impl.Node) impl.Rule {
	return impl.Rule{Kind: impl.RlBegin, Body: ndBlock(statements...)}
}

func allRule(statements ...impl.Node) impl.Rule {
	return impl.Rule{Kind: impl.RlAll, Body: ndBlock(statements...)}
}

func someRule(pat impl.Node, statements ...impl.Node) impl.Rule {
	return impl.Rule{Kind: impl.RlSome, Pat: pat, Body: ndBlock(statements...)}
}

// checkWrite asks for a text, for the rules back from it, and for the text back
// from these; of a text that is too long for a source only that it is told.
func checkWrite(t *testing.T, list []impl.Rule, want string) {
	t.Helper()
	if !impl.Tidy(list) {
		t.Errorf("Tidy of %.300s is false", shownRules(list))
	}
	got := impl.Write(list)
	if got != want {
		t.Errorf("Write of %.300s = %.300q, want %.300q", shownRules(list), got, want)
		return
	}
	back, bad := impl.Parse(got)
	if len(got) > impl.MaxSource {
		if bad != 0 || len(back) != 0 {
			t.Errorf("Parse of %d bytes tells %d rules, %d", len(got), len(back), bad)
		}
		return
	}
	if bad != -1 || !sameRules(back, list) {
		t.Errorf("Parse(%.300q) = %.300s, %d; want %.300s, -1", got, shownRules(back), bad, shownRules(list))
	}
	if again := impl.Write(back); again != got {
		t.Errorf("written again: %.300q, first %.300q", again, got)
	}
}

// checkUntidy asks for nothing, alone and with tidy rules beside it.
func checkUntidy(t *testing.T, what string, r impl.Rule) {
	t.Helper()
	begin, last := beginRule(), someRule(ndVar("x"), ndOf(impl.NdNext))
	for _, list := range [][]impl.Rule{{r}, {begin, r}, {r, last}, {begin, r, last}, {r, r}} {
		if impl.Tidy(list) {
			t.Errorf("%s: Tidy of %.300s is true", what, shownRules(list))
		}
		if got := impl.Write(list); got != "" {
			t.Errorf("%s: Write of %.300s = %.300q", what, shownRules(list), got)
		}
	}
}

// placesOfE are rules with n wherever an e may stand, and their texts with a
// byte 64 for that of n.
func placesOfE(n impl.Node) map[string]impl.Rule {
	x, next := ndVar("x"), ndOf(impl.NdNext)
	do := func(e impl.Node) impl.Rule { return allRule(ndOf(impl.NdDo, e)) }
	places := map[string]impl.Rule{
		"@ {\n}\n":                          someRule(n),
		"@ {\nnext;\n}\n":                   someRule(n, next),
		"BEGIN {\n@;\n}\n":                  beginRule(ndOf(impl.NdDo, n)),
		"{\nnext;\n@;\n@;\n}\n":             allRule(next, ndOf(impl.NdDo, n), ndOf(impl.NdDo, n)),
		"{\nprint @;\n}\n":                  allRule(ndOf(impl.NdPrint, n)),
		"{\nprint @, x, @;\n}\n":            allRule(ndOf(impl.NdPrint, n, x, n)),
		"{\nif (@) {\n}\n}\n":               allRule(ndOf(impl.NdIf, n, ndBlock())),
		"{\nif (@) {\n@;\n} else {\n}\n}\n": allRule(ndOf(impl.NdIf, n, ndBlock(ndOf(impl.NdDo, n)), ndBlock())),
		"{\nwhile (@) {\n}\n@;\n}\n":        allRule(ndOf(impl.NdWhile, n, ndBlock()), ndOf(impl.NdDo, n)),
		"{\ndelete x[@];\n}\n":              allRule(ndNamed(impl.NdDrop, "x", n)),
		"{\nx[@];\n}\n":                     do(ndNamed(impl.NdCell, "x", n)),
		"{\nlength(@);\n}\n":                do(ndNamed(impl.NdCall, "length", n)),
		"{\nindex(@, x, @);\n}\n":           do(ndNamed(impl.NdCall, "index", n, x, n)),
		"{\n(!@);\n}\n":                     do(ndOf(impl.NdNot, n)),
		"{\n(-@);\n}\n":                     do(ndOf(impl.NdMinus, n)),
		"{\n(x = @);\n}\n":                  do(twoOf(impl.NdSet, x, n)),
		"{\n(x += @);\n}\n":                 do(twoOf(impl.NdPlus, x, n)),
		"{\n(x[@] = @);\n}\n":               do(twoOf(impl.NdSet, ndNamed(impl.NdCell, "x", n), n)),
		"{\n(x[@] += x);\n}\n":              do(twoOf(impl.NdPlus, ndNamed(impl.NdCell, "x", n), x)),
	}
	for op, sign := range signTexts {
		places["{\n(@"+sign+"x);\n}\n"] = do(twoOf(op, n, x))
		places["{\n(x"+sign+"@);\n}\n"] = do(twoOf(op, x, n))
		places["{\n(@"+sign+"@);\n}\n"] = do(twoOf(op, n, n))
	}
	return places
}

// signTexts is what stands between the two es of an op.
var signTexts = map[int]string{
	impl.NdAdd: " + ", impl.NdSub: " - ", impl.NdMul: " * ", impl.NdDiv: " / ", impl.NdMod: " % ", impl.NdCat: " ",
	impl.NdLess: " < ", impl.NdMost: " <= ", impl.NdMore: " > ", impl.NdLeast: " >= ", impl.NdSame: " == ", impl.NdOther: " != ",
	impl.NdFits: " ~ ", impl.NdAnd: " && ", impl.NdOr: " || ",
}

// checkWriteE asks for the text of an e at each place; behind a `$` it is in
// brackets, unless it is told to be bare there.
func checkWriteE(t *testing.T, n impl.Node, want string, bare bool) {
	t.Helper()
	for place, r := range placesOfE(n) {
		checkWrite(t, []impl.Rule{r}, strings.ReplaceAll(place, "@", want))
	}
	behind := "(" + want + ")"
	if bare {
		behind = want
	}
	checkWrite(t, []impl.Rule{someRule(ndOf(impl.NdField, n))}, "$"+behind+" {\n}\n")
	checkWrite(t, []impl.Rule{someRule(ndOf(impl.NdField, ndOf(impl.NdField, n)))}, "$$"+behind+" {\n}\n")
}

// checkUntidyE asks for nothing at each place.
func checkUntidyE(t *testing.T, n impl.Node) {
	t.Helper()
	for place, r := range placesOfE(n) {
		checkUntidy(t, place, r)
	}
	checkUntidy(t, "$", someRule(ndOf(impl.NdField, n)))
}

func TestWriteNothing(t *testing.T) {
	checkWrite(t, nil, "")
	checkWrite(t, []impl.Rule{}, "")
	checkWrite(t, make([]impl.Rule, 3)[:0], "")
	// A rule is not nothing, whatever it is.
	checkUntidy(t, "zero", impl.Rule{})
}

func TestWriteRules(t *testing.T) {
	for _, c := range []parseCase{
		{"", ""}, {" # x\n", ""},
		{"BEGIN { }", "BEGIN {\n}\n"}, {"BEGIN{x=1}", "BEGIN {\n(x = 1);\n}\n"}, {"{}", "{\n}\n"}, {"{ print }", "{\nprint;\n}\n"}, {"x { }", "x {\n}\n"}, {"/a/ { next }", "(/a/) {\nnext;\n}\n"},
		// Without a block in the source.
		{"x", "x {\nprint;\n}\n"}, {"/a/", "(/a/) {\nprint;\n}\n"}, {"NR == 1", "(NR == 1) {\nprint;\n}\n"}, {"x !y", "x {\nprint;\n}\n(!y) {\nprint;\n}\n"}, {"x BEGIN { }", "x {\nprint;\n}\nBEGIN {\n}\n"},
		// Several, in their order.
		{"{ } { }", "{\n}\n{\n}\n"}, {"{ } BEGIN { } x { } y", "{\n}\nBEGIN {\n}\nx {\n}\ny {\nprint;\n}\n"},
		{
			"BEGIN { x = 1 } $1 > 2 && !y { print x \"a\\\"\", z[1 + 2 * 3]; if (x ~ /a\\/b/) { next } else { delete z[$NF] } while (length(x)) { print } } /b/",
			"BEGIN {\n(x = 1);\n}\n(($1 > 2) && (!y)) {\nprint (x \"a\\\"\"), z[(1 + (2 * 3))];\nif ((x ~ (/a\\/b/))) {\nnext;\n} else {\ndelete z[$(NF)];\n}\nwhile (length(x)) {\nprint;\n}\n}\n(/b/) {\nprint;\n}\n",
		},
	} {
		list, bad := impl.Parse(c.src)
		if bad != -1 {
			t.Errorf("Parse(%q) tells %d", c.src, bad)
		}
		checkWrite(t, list, c.want)
	}
}

func TestWriteStatements(t *testing.T) {
	x, y, one1 := ndVar("x"), ndVar("y"), ndNum(one)
	next := ndOf(impl.NdNext)
	statements := []struct {
		n    impl.Node
		want string
	}{
		{ndOf(impl.NdPrint), "print;"}, {ndOf(impl.NdPrint, x), "print x;"}, {ndOf(impl.NdPrint, x, y), "print x, y;"}, {ndOf(impl.NdPrint, x, one1, ndText("t"), y), "print x, 1, \"t\", y;"}, {ndOf(impl.NdPrint, ndText(", ")), "print \", \";"},
		{ndOf(impl.NdPrint, ndRex("a")), "print (/a/);"}, {ndOf(impl.NdPrint, twoOf(impl.NdMore, x, y), ndOf(impl.NdMinus, x)), "print (x > y), (-x);"},
		{next, "next;"}, {ndNamed(impl.NdDrop, "x", y), "delete x[y];"}, {ndNamed(impl.NdDrop, "abcdefgh", twoOf(impl.NdCat, x, y)), "delete abcdefgh[(x y)];"},
		{ndOf(impl.NdDo, x), "x;"}, {ndOf(impl.NdDo, twoOf(impl.NdSet, x, one1)), "(x = 1);"}, {ndOf(impl.NdDo, ndNamed(impl.NdCall, "length")), "length();"},
		{ndBlock(), "{\n}"}, {ndBlock(next), "{\nnext;\n}"}, {ndBlock(ndBlock()), "{\n{\n}\n}"}, {ndBlock(next, ndBlock(next), next), "{\nnext;\n{\nnext;\n}\nnext;\n}"}, {ndBlock(ndBlock(), ndBlock()), "{\n{\n}\n{\n}\n}"},
		{ndOf(impl.NdIf, x, ndBlock()), "if (x) {\n}"}, {ndOf(impl.NdIf, x, ndBlock(next)), "if (x) {\nnext;\n}"}, {ndOf(impl.NdIf, x, ndBlock(), ndBlock()), "if (x) {\n} else {\n}"}, {ndOf(impl.NdIf, x, ndBlock(next), ndBlock(next, next)), "if (x) {\nnext;\n} else {\nnext;\nnext;\n}"},
		{ndOf(impl.NdIf, twoOf(impl.NdSet, x, y), ndBlock(ndOf(impl.NdIf, y, ndBlock())), ndBlock(ndOf(impl.NdIf, y, ndBlock(), ndBlock()))), "if ((x = y)) {\nif (y) {\n}\n} else {\nif (y) {\n} else {\n}\n}"},
		{ndOf(impl.NdWhile, x, ndBlock()), "while (x) {\n}"}, {ndOf(impl.NdWhile, twoOf(impl.NdLess, x, y), ndBlock(next, ndOf(impl.NdDo, y))), "while ((x < y)) {\nnext;\ny;\n}"}, {ndOf(impl.NdWhile, x, ndBlock(ndOf(impl.NdWhile, y, ndBlock()))), "while (x) {\nwhile (y) {\n}\n}"},
	}
	for _, a := range statements {
		checkWrite(t, []impl.Rule{allRule(a.n)}, "{\n"+a.want+"\n}\n")
		checkWrite(t, []impl.Rule{beginRule(a.n)}, "BEGIN {\n"+a.want+"\n}\n")
		checkWrite(t, []impl.Rule{someRule(x, a.n)}, "x {\n"+a.want+"\n}\n")
		checkWrite(t, []impl.Rule{allRule(ndBlock(a.n))}, "{\n{\n"+a.want+"\n}\n}\n")
		checkWrite(t, []impl.Rule{allRule(ndOf(impl.NdIf, x, ndBlock(a.n), ndBlock(a.n)))}, "{\nif (x) {\n"+a.want+"\n} else {\n"+a.want+"\n}\n}\n")
		checkWrite(t, []impl.Rule{allRule(ndOf(impl.NdWhile, x, ndBlock(a.n)))}, "{\nwhile (x) {\n"+a.want+"\n}\n}\n")
		for _, b := range statements {
			checkWrite(t, []impl.Rule{allRule(a.n, b.n), beginRule(b.n)}, "{\n"+a.want+"\n"+b.want+"\n}\nBEGIN {\n"+b.want+"\n}\n")
		}
	}
}

func TestWriteEs(t *testing.T) {
	x, y, one1 := ndVar("x"), ndVar("y"), ndNum(one)
	for _, c := range []struct {
		n    impl.Node
		want string
		bare bool
	}{
		{ndNum(0), "0", true}, {one1, "1", true}, {ndNum(1), "0.000001", true}, {ndNum(2500000), "2.5", true}, {ndNum(10 * one), "10", true}, {ndNum(one + 100), "1.0001", true}, {ndNum(top), "9000000", true}, {ndNum(top - 1), "8999999.999999", true},
		{ndText(""), `""`, false}, {ndText("a"), `"a"`, false}, {ndText(`"`), `"\""`, false}, {ndText(`\`), `"\\"`, false}, {ndText(`a"b\c`), `"a\"b\\c"`, false}, {ndText(`\"`), `"\\\""`, false}, {ndText(`/`), `"/"`, false}, {ndText("(/a/)"), `"(/a/)"`, false}, {ndText(" # ; }"), `" # ; }"`, false}, {ndText("\xff\x00\t\r\u00e9"), "\"\xff\x00\t\r\u00e9\"", false},
		{ndRex(""), "(//)", false}, {ndRex("a"), "(/a/)", false}, {ndRex("/"), `(/\//)`, false}, {ndRex("a/b"), `(/a\/b/)`, false}, {ndRex("//"), `(/\/\//)`, false}, {ndRex("[/]"), `(/[\/]/)`, false}, {ndRex(`\.`), `(/\./)`, false}, {ndRex(`\\`), `(/\\/)`, false}, {ndRex(`\\/`), `(/\\\//)`, false}, {ndRex(`/\\`), `(/\/\\/)`, false}, {ndRex(`\\\\/\a/`), `(/\\\\\/\a\//)`, false}, {ndRex(`"`), `(/"/)`, false}, {ndRex(`\"`), `(/\"/)`, false}, {ndRex("#"), "(/#/)", false}, {ndRex("\xff\x00 \t"), "(/\xff\x00 \t/)", false}, {ndRex("(*"), "(/(*/)", false},
		{x, "x", true}, {ndVar("abcdefgh"), "abcdefgh", true}, {ndVar("Z"), "Z", true}, {ndVar("nr"), "nr", true}, {ndVar("lengths"), "lengths", true},
		{ndOf(impl.NdNr), "NR", false}, {ndOf(impl.NdNf), "NF", false},
		{ndOf(impl.NdField, one1), "$1", true}, {ndOf(impl.NdField, ndNum(500000)), "$0.5", true}, {ndOf(impl.NdField, x), "$x", true}, {ndOf(impl.NdField, ndOf(impl.NdField, x)), "$$x", true}, {ndOf(impl.NdField, ndOf(impl.NdNf)), "$(NF)", true}, {ndOf(impl.NdField, ndOf(impl.NdNr)), "$(NR)", true}, {ndOf(impl.NdField, ndText("a")), `$("a")`, true}, {ndOf(impl.NdField, ndRex("a")), "$((/a/))", true}, {ndOf(impl.NdField, ndNamed(impl.NdCell, "x", y)), "$(x[y])", true}, {ndOf(impl.NdField, ndNamed(impl.NdCall, "int", y)), "$(int(y))", true},
		{ndOf(impl.NdField, ndOf(impl.NdMinus, one1)), "$((-1))", true}, {ndOf(impl.NdField, ndOf(impl.NdNot, x)), "$((!x))", true}, {ndOf(impl.NdField, twoOf(impl.NdSub, ndOf(impl.NdNf), one1)), "$((NF - 1))", true}, {ndOf(impl.NdField, twoOf(impl.NdSet, x, one1)), "$((x = 1))", true}, {ndOf(impl.NdField, ndOf(impl.NdField, twoOf(impl.NdCat, x, y))), "$$((x y))", true},
		{ndNamed(impl.NdCell, "x", one1), "x[1]", false}, {ndNamed(impl.NdCell, "x", ndNamed(impl.NdCell, "y", x)), "x[y[x]]", false}, {ndNamed(impl.NdCell, "x", twoOf(impl.NdAdd, x, y)), "x[(x + y)]", false}, {ndNamed(impl.NdCell, "x", ndRex("a")), "x[(/a/)]", false},
		{ndNamed(impl.NdCall, "length"), "length()", false}, {ndNamed(impl.NdCall, "upper", x), "upper(x)", false}, {ndNamed(impl.NdCall, "index", x, y), "index(x, y)", false}, {ndNamed(impl.NdCall, "substr", x, one1, ndOf(impl.NdNf)), "substr(x, 1, NF)", false}, {ndNamed(impl.NdCall, "int", x, x, x, x, x), "int(x, x, x, x, x)", false}, {ndNamed(impl.NdCall, "lower", ndNamed(impl.NdCall, "lower")), "lower(lower())", false}, {ndNamed(impl.NdCall, "int", twoOf(impl.NdSet, x, y), ndRex("")), "int((x = y), (//))", false},
		{ndOf(impl.NdNot, x), "(!x)", false}, {ndOf(impl.NdMinus, x), "(-x)", false}, {ndOf(impl.NdNot, ndOf(impl.NdNot, x)), "(!(!x))", false}, {ndOf(impl.NdMinus, ndOf(impl.NdMinus, one1)), "(-(-1))", false}, {ndOf(impl.NdNot, twoOf(impl.NdFits, x, ndRex("a"))), "(!(x ~ (/a/)))", false}, {ndOf(impl.NdMinus, ndOf(impl.NdField, one1)), "(-$1)", false},
		{twoOf(impl.NdSet, x, y), "(x = y)", false}, {twoOf(impl.NdPlus, x, y), "(x += y)", false}, {twoOf(impl.NdSet, ndNamed(impl.NdCell, "x", one1), y), "(x[1] = y)", false}, {twoOf(impl.NdPlus, ndNamed(impl.NdCell, "x", ndText("a")), y), `(x["a"] += y)`, false}, {twoOf(impl.NdSet, x, twoOf(impl.NdPlus, y, x)), "(x = (y += x))", false},
		// Blanks alone between, of whatever is beside each other.
		{twoOf(impl.NdCat, x, y), "(x y)", false}, {twoOf(impl.NdCat, one1, one1), "(1 1)", false}, {twoOf(impl.NdCat, twoOf(impl.NdCat, x, y), x), "((x y) x)", false}, {twoOf(impl.NdCat, x, twoOf(impl.NdCat, y, x)), "(x (y x))", false}, {twoOf(impl.NdCat, x, ndOf(impl.NdMinus, y)), "(x (-y))", false}, {twoOf(impl.NdCat, x, ndOf(impl.NdNot, y)), "(x (!y))", false}, {twoOf(impl.NdCat, x, ndRex("a")), "(x (/a/))", false}, {twoOf(impl.NdCat, ndOf(impl.NdField, x), ndOf(impl.NdField, y)), "($x $y)", false}, {twoOf(impl.NdCat, ndText("a"), ndText("b")), `("a" "b")`, false},
		// From the left or from the right, brackets keep it.
		{twoOf(impl.NdSub, twoOf(impl.NdSub, x, y), x), "((x - y) - x)", false}, {twoOf(impl.NdSub, x, twoOf(impl.NdSub, y, x)), "(x - (y - x))", false}, {twoOf(impl.NdDiv, ndOf(impl.NdNr), ndRex("/")), `(NR / (/\//))`, false}, {twoOf(impl.NdDiv, ndRex("a"), ndRex("b")), "((/a/) / (/b/))", false}, {twoOf(impl.NdLess, twoOf(impl.NdLess, x, y), x), "((x < y) < x)", false}, {twoOf(impl.NdFits, x, twoOf(impl.NdFits, y, x)), "(x ~ (y ~ x))", false}, {twoOf(impl.NdAnd, twoOf(impl.NdOr, x, y), x), "((x || y) && x)", false},
	} {
		checkWriteE(t, c.n, c.want, c.bare)
	}
	for op, sign := range signTexts {
		checkWriteE(t, twoOf(op, x, one1), "(x"+sign+"1)", false)
		for other, inner := range signTexts {
			checkWriteE(t, twoOf(op, twoOf(other, x, y), twoOf(other, y, x)), "((x"+inner+"y)"+sign+"(y"+inner+"x))", false)
		}
	}
}

func TestTidyNumbers(t *testing.T) {
	for _, n := range []int{0, 1, 9, 10, 999999, one, one + 1, 123456789, top - one, top - 1, top} {
		checkWriteE(t, ndNum(n), shownNum(n), true)
	}
	for _, n := range []int{top + 1, top + one, -1, -one, -top, -top - 1, math.MaxInt, math.MinInt, math.MaxInt32 * one * 5} {
		checkUntidyE(t, ndNum(n))
	}
}

func TestTidyNames(t *testing.T) {
	named := func(s string) []impl.Rule {
		x := ndVar("x")
		return []impl.Rule{
			someRule(ndVar(s)), someRule(ndNamed(impl.NdCell, s, x)), allRule(ndNamed(impl.NdDrop, s, x)), allRule(ndOf(impl.NdDo, twoOf(impl.NdSet, ndVar(s), x))), allRule(ndOf(impl.NdDo, twoOf(impl.NdPlus, ndNamed(impl.NdCell, s, x), x))), someRule(ndOf(impl.NdField, ndVar(s))),
		}
	}
	right := func(s string) {
		t.Helper()
		for i, want := range []string{s + " {\n}\n", s + "[x] {\n}\n", "{\ndelete " + s + "[x];\n}\n", "{\n(" + s + " = x);\n}\n", "{\n(" + s + "[x] += x);\n}\n", "$" + s + " {\n}\n"} {
			checkWrite(t, named(s)[i:i+1], want)
		}
	}
	wrong := func(s string) {
		t.Helper()
		for _, r := range named(s) {
			checkUntidy(t, fmt.Sprintf("name %q", s), r)
		}
	}
	for _, s := range []string{"a", "z", "A", "Z", "ab", "abcdefg", "abcdefgh", "ABCDEFGH", "zZzZzZzZ", "Begin", "END", "BEGI", "BEGINN", "PRINT", "prin", "nr", "Nr", "nF", "lengt", "lengths", "Int", "uppe", "iF", "do", "for"} {
		right(s)
	}
	for _, s := range []string{"", "abcdefghi", "ABCDEFGHIJ", strings.Repeat("a", 300), "a1", "1a", "1", "a b", " a", "a ", "a.", "a_b", "\u00e9", "a\u00e9", "a\x00", "\x00", "a\n", "(", "x[1]", "x;", "$x", "-x", "x#"} {
		wrong(s)
	}
	for _, s := range keywords {
		wrong(s)
	}
	for b := range 256 {
		alone := string([]byte{byte(b)})
		for _, s := range []string{alone, "a" + alone, alone + "a", "abc" + alone + "defg"} {
			if regexp.MustCompile(`^[a-zA-Z]$`).MatchString(alone) {
				right(s)
			} else {
				wrong(s)
			}
		}
	}
	// Of calls the six, and no other.
	for _, s := range append([]string{"", "x", "Length", "LENGTH", "lengths", "lengt", "length ", " length", "length\x00", "sub", "toupper", "abcdefghi"}, keywords...) {
		call := ndNamed(impl.NdCall, s, ndVar("x"))
		if slices.Contains(keywords[9:], s) {
			checkWriteE(t, call, s+"(x)", false)
		} else {
			checkUntidyE(t, call)
		}
	}
}

func TestTidyTexts(t *testing.T) {
	quoted := strings.NewReplacer(`"`, `\"`, `\`, `\\`)
	check := func(s string) {
		t.Helper()
		r := someRule(ndText(s))
		if strings.Contains(s, "\n") {
			checkUntidy(t, fmt.Sprintf("text %.80q", s), r)
		} else {
			checkWrite(t, []impl.Rule{r}, `"`+quoted.Replace(s)+`" {`+"\n}\n")
		}
	}
	for b := range 256 {
		alone := string([]byte{byte(b)})
		for _, s := range []string{alone, "a" + alone, alone + "a", `\` + alone, `"` + alone, alone + alone, alone + `\`} {
			check(s)
		}
	}
	check(allBytes(0, 9) + allBytes(11, 255))
	check(allBytes(0, 255))
	for _, n := range []int{100, impl.MaxText, impl.MaxText + 1, 1990, 1995, 100000} {
		check(strings.Repeat("a", n))
		check(strings.Repeat(`"`, n))
		check(strings.Repeat("a", n) + "\n")
	}
	eachText("a\"\\\n", 5, check)
	checkUntidyE(t, ndText("a\nb"))
}

// tokenRexShape is a pattern of a token: bytes but 10, none or two of a byte 92 and
// what is behind it, which is no `/`.
var tokenRexShape = regexp.MustCompile(`^(?s:[^\\\n]|\\[^/\n])*$`)

func TestTidyPatterns(t *testing.T) {
	check := func(s string) {
		t.Helper()
		r := someRule(ndRex(s))
		if !tokenRexShape.MatchString(s) {
			checkUntidy(t, fmt.Sprintf("pattern %.80q", s), r)
		} else {
			checkWrite(t, []impl.Rule{r}, "(/"+strings.ReplaceAll(s, "/", `\/`)+"/) {\n}\n")
		}
	}
	for b := range 128 {
		alone := string([]byte{byte(b)})
		for _, s := range []string{alone, "a" + alone, alone + "a", `\` + alone, `\\` + alone, `\\\` + alone, "/" + alone, alone + "/", alone + alone, alone + `\\/`} {
			check(s)
		}
	}
	// The shape goes by runes; these bytes are like any other.
	for b := 128; b < 256; b++ {
		alone := string([]byte{byte(b)})
		for _, s := range []string{alone, `\` + alone, alone + alone + `\\`} {
			checkWrite(t, []impl.Rule{someRule(ndRex(s))}, "(/"+s+"/) {\n}\n")
		}
		checkUntidy(t, "a byte 92 at the end", someRule(ndRex(alone+`\`)))
		checkUntidy(t, "a byte 92 and a `/`", someRule(ndRex(alone+`\/`)))
	}
	right, wrong := 0, 0
	eachText("a/\\\n", 7, func(s string) {
		if tokenRexShape.MatchString(s) {
			right++
		} else {
			wrong++
		}
		check(s)
	})
	if right < 1000 || wrong < 1000 {
		t.Errorf("%d right, %d wrong", right, wrong)
	}
	for _, n := range []int{impl.MaxRex, impl.MaxRex + 1, 900, 901, 100000} {
		check(strings.Repeat("a", n))
		check(strings.Repeat("/", n))
		check(strings.Repeat(`\`, n))
		check(strings.Repeat(`\`, n) + "/")
		check(strings.Repeat(`\`, n) + "\n")
		check(strings.Repeat(`\a`, n))
	}
	for _, s := range []string{"\n", "a\n", `\`, `a\`, `\/`, `a\/b`, `\\\/`, "\\\n", `/\/`, `\\\`} {
		checkUntidyE(t, ndRex(s))
	}
	// What is no pattern of chapter 3 may still be one of a token.
	for _, s := range []string{"(", ")", "*", "[", "a**(", "|)"} {
		checkWriteE(t, ndRex(s), "(/"+s+"/)", false)
	}
}

// withOthers are nodes that differ from a tidy one in what its op does not name.
func withOthers(n impl.Node) []impl.Node {
	var list []impl.Node
	add := func(other impl.Node) { list = append(list, other) }
	for _, more := range []int{1, -1, one, top, math.MinInt, math.MaxInt} {
		if n.Op != impl.NdNum {
			other := n
			other.N = more
			add(other)
		}
	}
	if n.S == "" && n.Op != impl.NdText && n.Op != impl.NdRex {
		for _, s := range []string{"x", "length", " ", "NR", "print", "\x00"} {
			other := n
			other.S = s
			add(other)
		}
	}
	return list
}

// tidyNodes has a tidy node of each op.
func tidyNodes() []impl.Node {
	x, list := ndVar("x"), []impl.Node{{}}
	for op := impl.NdNum; op <= impl.NdDo; op++ {
		n := impl.Node{Op: op}
		switch op {
		case impl.NdNum, impl.NdText, impl.NdRex, impl.NdNr, impl.NdNf, impl.NdNext, impl.NdPrint, impl.NdBlock:
		case impl.NdVar:
			n = x
		case impl.NdCall:
			n.S = "length"
		case impl.NdCell, impl.NdDrop:
			n.S, n.Kids = "x", []impl.Node{x}
		case impl.NdField, impl.NdNot, impl.NdMinus, impl.NdDo:
			n.Kids = []impl.Node{x}
		case impl.NdIf, impl.NdWhile:
			n.Kids = []impl.Node{x, ndBlock()}
		default:
			n.Kids = []impl.Node{x, x}
		}
		list = append(list, n)
	}
	return list
}

// isEOp tells whether an op is one of an e, by the chapter's list.
func isEOp(op int) bool { return op >= impl.NdNum && op <= impl.NdCall }

// ruleWith is a rule with n at a place where its op may stand.
func ruleWith(n impl.Node) impl.Rule {
	if isEOp(n.Op) {
		return someRule(n)
	}
	return allRule(n)
}

func TestTidyEachOp(t *testing.T) {
	nodes := tidyNodes()
	for op := impl.NdNum; op <= impl.NdDo; op++ {
		n := nodes[op]
		if !impl.Tidy([]impl.Rule{ruleWith(n)}) {
			t.Fatalf("Tidy of %s is false", shownNode(n))
		}
		// Too many, too few.
		more := n
		many := op == impl.NdCall || op == impl.NdPrint || op == impl.NdBlock
		for _, kid := range []impl.Node{ndVar("x"), ndNum(one), ndOf(impl.NdNext), {}} {
			more.Kids = append(slices.Clone(n.Kids), kid)
			if !(many && isEOp(kid.Op) == (op != impl.NdBlock) && kid.Op != 0) {
				checkUntidy(t, "one too many", ruleWith(more))
			}
		}
		if op == impl.NdIf {
			more.Kids = append(slices.Clone(n.Kids), ndBlock(), ndBlock())
			checkUntidy(t, "two too many", ruleWith(more))
		}
		for i := range n.Kids {
			less := n
			less.Kids = slices.Delete(slices.Clone(n.Kids), i, i+1)
			checkUntidy(t, "one too few", ruleWith(less))
			less.Kids = nil
			checkUntidy(t, "none", ruleWith(less))
			// Of a kind that can't stand there.
			for other := range nodes {
				wantE := n.Kids[i].Op != impl.NdBlock
				may := wantE && isEOp(other) || !wantE && other == impl.NdBlock
				if i == 0 && (op == impl.NdSet || op == impl.NdPlus) {
					may = other == impl.NdVar || other == impl.NdCell
				}
				turned := n
				turned.Kids = slices.Clone(n.Kids)
				turned.Kids[i] = nodes[other]
				if got := impl.Tidy([]impl.Rule{ruleWith(turned)}); got != may {
					t.Errorf("Tidy of %s is %t", shownNode(turned), got)
				}
				if !may {
					checkUntidy(t, "a kind that can't stand there", ruleWith(turned))
				}
			}
		}
		for _, other := range withOthers(n) {
			checkUntidy(t, "what is not named", ruleWith(other))
			checkUntidy(t, "what is not named, within", allRule(ndBlock(other)))
			checkUntidy(t, "what is not named, within", someRule(ndOf(impl.NdNot, other)))
		}
	}
	for _, op := range []int{0, -1, -35, 36, 37, 255, 256 + impl.NdNr, 1<<32 + impl.NdNext, math.MinInt, math.MaxInt} {
		for _, kids := range [][]impl.Node{nil, {ndVar("x")}, {ndVar("x"), ndVar("y")}, {ndOf(impl.NdNext)}} {
			for _, s := range []string{"", "x", "length"} {
				n := ndNamed(op, s, kids...)
				checkUntidy(t, "no op", someRule(n))
				checkUntidy(t, "no op", allRule(n))
				checkUntidy(t, "no op", allRule(ndOf(impl.NdDo, n)))
				checkUntidy(t, "no op", impl.Rule{Kind: impl.RlAll, Body: n})
			}
		}
	}
}

func TestTidyRules(t *testing.T) {
	nodes := tidyNodes()
	// Pat and Body of each op.
	for op, n := range nodes {
		pat := someRule(n)
		if isEOp(op) != impl.Tidy([]impl.Rule{pat}) {
			t.Errorf("Tidy of %s is %t", shownRule(pat), impl.Tidy([]impl.Rule{pat}))
		}
		for _, kind := range []int{impl.RlBegin, impl.RlAll} {
			if op != 0 {
				checkUntidy(t, "a Pat of what has none", impl.Rule{Kind: kind, Pat: n, Body: ndBlock()})
			}
		}
		if op == impl.NdBlock {
			continue
		}
		checkUntidy(t, "no block", impl.Rule{Kind: impl.RlBegin, Body: n})
		checkUntidy(t, "no block", impl.Rule{Kind: impl.RlAll, Body: n})
		checkUntidy(t, "no block", impl.Rule{Kind: impl.RlSome, Pat: ndVar("x"), Body: n})
	}
	// What is not named, of a Pat.
	for _, pat := range []impl.Node{{N: 1}, {N: -1}, {N: math.MinInt}, {S: "x"}, {S: "\x00"}, {Kids: []impl.Node{{}}}, {Kids: make([]impl.Node, 20)}, ndVar("x"), {Op: -1}, {Op: 36}} {
		for _, kind := range []int{impl.RlBegin, impl.RlAll} {
			checkUntidy(t, "a Pat that is not zero", impl.Rule{Kind: kind, Pat: pat, Body: ndBlock()})
		}
	}
	checkUntidy(t, "no Pat", someRule(impl.Node{}))
	// An empty list and nil are the same.
	empty := impl.Node{Kids: []impl.Node{}}
	checkWrite(t, []impl.Rule{{Kind: impl.RlAll, Pat: empty, Body: impl.Node{Op: impl.NdBlock, Kids: []impl.Node{}}}}, "{\n}\n")
	checkWrite(t, []impl.Rule{{Kind: impl.RlBegin, Pat: impl.Node{Kids: make([]impl.Node, 2)[:0]}, Body: ndBlock()}}, "BEGIN {\n}\n")
	checkWrite(t, []impl.Rule{someRule(impl.Node{Op: impl.NdVar, S: "x", Kids: []impl.Node{}})}, "x {\n}\n")
	// Kinds.
	for _, kind := range []int{0, 4, -1, -2, 5, 255, 257, 1<<32 + 2, math.MinInt, math.MaxInt} {
		for _, pat := range []impl.Node{{}, ndVar("x")} {
			checkUntidy(t, "no kind", impl.Rule{Kind: kind, Pat: pat, Body: ndBlock()})
		}
	}
	// One among many, wherever it is.
	for at := range 30 {
		var list []impl.Rule
		for range 30 {
			list = append(list, someRule(ndVar("x"), ndOf(impl.NdPrint, ndNum(one))))
		}
		checkWrite(t, list, strings.Repeat("x {\nprint 1;\n}\n", 30))
		list[at].Body.Kids[0].Kids[0].N = -1
		if impl.Tidy(list) || impl.Write(list) != "" {
			t.Errorf("rule %d is not tidy, but all are", at)
		}
	}
}
