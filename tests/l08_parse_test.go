package tests

import (
	"fmt"
	"math"
	"slices"
	"strings"
	"testing"

	"loop.example/g00289/impl"
)

var opNames = map[int]string{
	impl.NdField: "field", impl.NdNr: "NR", impl.NdNf: "NF",
	impl.NdAdd: "add", impl.NdSub: "sub", impl.NdMul: "mul", impl.NdDiv: "div", impl.NdMod: "mod", impl.NdCat: "cat",
	impl.NdLess: "less", impl.NdMost: "most", impl.NdMore: "more", impl.NdLeast: "least", impl.NdSame: "same", impl.NdOther: "other",
	impl.NdFits: "fits", impl.NdNot: "not", impl.NdMinus: "minus", impl.NdAnd: "and", impl.NdOr: "or", impl.NdSet: "set", impl.NdPlus: "plus",
	impl.NdBlock: "block", impl.NdPrint: "print", impl.NdIf: "if", impl.NdWhile: "while", impl.NdNext: "next", impl.NdDo: "do",
}

// shownNode tells two nodes apart wherever they differ: what the op does not
// name is shown too, where it is not zero.
func shownNode(n impl.Node) string {
	shown, kids := "", n.Kids
	switch n.Op {
	case impl.NdNum:
		shown, n.N = fmt.Sprint(float64(n.N)/one), 0
	case impl.NdText:
		shown, n.S = fmt.Sprintf("%q", n.S), ""
	case impl.NdRex:
		shown, n.S = fmt.Sprintf("/%q/", n.S), ""
	case impl.NdVar:
		shown, n.S = n.S, ""
	case impl.NdCell:
		shown, n.S = "cell "+n.S, ""
	case impl.NdCall:
		shown, n.S = "call "+n.S, ""
	case impl.NdDrop:
		shown, n.S = "drop "+n.S, ""
	default:
		shown = opNames[n.Op]
	}
	if shown == "" || n.N != 0 || n.S != "" {
		shown += fmt.Sprintf("!%d,%d,%q", n.Op, n.N, n.S)
	}
	if len(kids) == 0 {
		return shown
	}
	var list []string
	for _, kid := range kids {
		list = append(list, shownNode(kid))
	}
	return shown + "(" + strings.Join(list, ", ") + ")"
}

func shownRule(r impl.Rule) string {
	kind := map[int]string{impl.RlBegin: "begin", impl.RlAll: "all", impl.RlSome: "some"}[r.Kind]
	noPat := r.Pat.Op == 0 && r.Pat.N == 0 && r.Pat.S == "" && len(r.Pat.Kids) == 0
	if kind == "" || noPat == (kind == "some") {
		return fmt.Sprintf("!%v", r)
	}
	if kind == "some" {
		kind += " " + shownNode(r.Pat)
	}
	return kind + ": " + shownNode(r.Body)
}

func shownRules(list []impl.Rule) string {
	var shown []string
	for _, r := range list {
		shown = append(shown, shownRule(r))
	}
	return strings.Join(shown, "; ")
}

func checkParse(t *testing.T, src string, want string) {
	t.Helper()
	if list, bad := impl.Parse(src); bad != -1 || shownRules(list) != want {
		t.Errorf("Parse(%.120q) = %.300s, %d; want %.300s, -1", src, shownRules(list), bad, want)
	}
}

func checkNoParse(t *testing.T, src string, want int) {
	t.Helper()
	if list, bad := impl.Parse(src); bad != want || len(list) != 0 {
		t.Errorf("Parse(%.120q) = %.300s, %d; want nothing, %d", src, shownRules(list), bad, want)
	}
}

// checkRefused asks for the place that is marked by a byte 64, which is not of
// the source: what stands behind that token turns nothing, and without it and
// all behind it nothing is amiss but that the text ends there, if that is.
func checkRefused(t *testing.T, marked string) {
	t.Helper()
	at := strings.Index(marked, "@")
	src := marked[:at] + marked[at+1:]
	checkNoParse(t, src, at)
	if list, bad := impl.Parse(src[:at]); bad != -1 && bad != at {
		t.Errorf("Parse(%.120q) = %.300s, %d; want -1 or %d", src[:at], shownRules(list), bad, at)
	}
	if at == len(src) {
		return
	}
	for _, behind := range []string{"\n} ; x = 1", "\n)", "\nx", "\n{ } ] else"} {
		checkNoParse(t, src+behind, at)
	}
}

// checkE asks for an e at each place where one may stand.
func checkE(t *testing.T, src string, want string) {
	t.Helper()
	places := map[string]string{
		"#":                         "some #: block(print)",
		"# { }":                     "some #: block",
		"#\n{ next; }":              "some #: block(next)",
		"{ } # { }":                 "all: block; some #: block",
		"BEGIN { # }":               "begin: block(do(#))",
		"{ #; }":                    "all: block(do(#))",
		"{;#;#\n}":                  "all: block(do(#), do(#))",
		"{ print (#); }":            "all: block(print(#))",
		"{ print -1, #, (#) }":      "all: block(print(minus(1), #, #))",
		"{ if (#) { # } }":          "all: block(if(#, block(do(#))))",
		"{ while (#) { } # }":       "all: block(while(#, block), do(#))",
		"{ delete q[#]; }":          "all: block(drop q(#))",
		"{ q[#]; (((#))) }":         "all: block(do(cell q(#)), do(#))",
		"{ upper(#) ; int(#, #) }":  "all: block(do(call upper(#)), do(call int(#, #)))",
		"{ q = #; q += # }":         "all: block(do(set(q, #)), do(plus(q, #)))",
		"{ q[#] = # }":              "all: block(do(set(cell q(#), #)))",
		"$(#) -(#) { }":             "some sub(field(#), #): block",
		"{ ! (#) ; 2 * (#) (#) }":   "all: block(do(not(#)), do(cat(mul(2, #), #)))",
		"(#) ~ (#) < (#) && (#) {}": "some and(fits(#, less(#, #)), #): block",
	}
	for place, around := range places {
		checkParse(t, strings.ReplaceAll(place, "#", src), strings.ReplaceAll(around, "#", want))
	}
}

type parseCase struct {
	src  string
	want string
}

func TestNodeConstants(t *testing.T) {
	got := []int{
		impl.NdNum, impl.NdText, impl.NdRex, impl.NdVar, impl.NdCell, impl.NdField, impl.NdNr, impl.NdNf, impl.NdAdd, impl.NdSub, impl.NdMul, impl.NdDiv, impl.NdMod, impl.NdCat,
		impl.NdLess, impl.NdMost, impl.NdMore, impl.NdLeast, impl.NdSame, impl.NdOther, impl.NdFits, impl.NdNot, impl.NdMinus, impl.NdAnd, impl.NdOr, impl.NdSet, impl.NdPlus, impl.NdCall,
		impl.NdBlock, impl.NdPrint, impl.NdIf, impl.NdWhile, impl.NdNext, impl.NdDrop, impl.NdDo,
	}
	for i, op := range got {
		if op != i+1 {
			t.Errorf("op %d is %d", i+1, op)
		}
	}
	if kinds := []int{impl.RlBegin, impl.RlAll, impl.RlSome}; len(got) != 35 || !slices.Equal(kinds, []int{1, 2, 3}) || impl.MaxTree != 16 {
		t.Errorf("%d ops, kinds of rules are %v, MaxTree is %d", len(got), kinds, impl.MaxTree)
	}
}

func TestParseRules(t *testing.T) {
	for _, c := range []parseCase{
		// Nothing at all.
		{"", ""}, {" \n ", ""}, {"# x {\n", ""},
		{"BEGIN { }", "begin: block"}, {"BEGIN{x=1}", "begin: block(do(set(x, 1)))"}, {"{ }", "all: block"}, {"{ x }", "all: block(do(x))"},
		{"x { }", "some x: block"}, {"x { next }", "some x: block(next)"}, {"NR == 1 { print }", "some same(NR, 1): block(print)"},
		// Without a block: NdPrint of nothing.
		{"x", "some x: block(print)"}, {"/a/", `some /"a"/: block(print)`}, {"!x", "some not(x): block(print)"}, {"x = 1", "some set(x, 1): block(print)"}, {"(x)", "some x: block(print)"},
		// One behind the other, in their order.
		{"{ } { }", "all: block; all: block"}, {"BEGIN { } BEGIN { }", "begin: block; begin: block"}, {"{ } BEGIN { } x { } y { }", "all: block; begin: block; some x: block; some y: block"},
		{"x { } y", "some x: block; some y: block(print)"}, {"{ } /a/ { } /b/ { }", `all: block; some /"a"/: block; some /"b"/: block`},
		{"BEGIN { x = 1 } $1 > 2 && !y { print x y, z[1] + 2 * 3; } /a/", `begin: block(do(set(x, 1))); some and(more(field(1), 2), not(y)): block(print(cat(x, y), add(cell z(1), mul(2, 3)))); some /"a"/: block(print)`},
		// What stands behind an e without a block is its own, unless nothing goes on with it.
		{"x y", "some cat(x, y): block(print)"}, {"x\ny { }", "some cat(x, y): block"}, {"x -y", "some sub(x, y): block(print)"}, {"x\n-y", "some sub(x, y): block(print)"},
		{"x !y", "some x: block(print); some not(y): block(print)"}, {"x\n!y { }", "some x: block(print); some not(y): block"}, {"x !y !z", "some x: block(print); some not(y): block(print); some not(z): block(print)"},
		{"x BEGIN { }", "some x: block(print); begin: block"}, {"x = 1 BEGIN { } y", "some set(x, 1): block(print); begin: block; some y: block(print)"}, {"x < y !z", "some less(x, y): block(print); some not(z): block(print)"},
		{"x { } { }", "some x: block; all: block"}, {"x\n\n{ }", "some x: block"}, {"x # {\n{ }", "some x: block"},
		{"x != y", "some other(x, y): block(print)"}, {"x ! y", "some x: block(print); some not(y): block(print)"}, {"x !~ y", "some not(fits(x, y)): block(print)"},
	} {
		checkParse(t, c.src, c.want)
	}
}

func TestParseStatements(t *testing.T) {
	statements := []parseCase{
		{"print", "print"}, {"print x", "print(x)"}, {"print x, y", "print(x, y)"}, {"print x, y, 1, \"t\"", "print(x, y, 1, \"t\")"}, {"print x y, z", "print(cat(x, y), z)"},
		{"print x = 1, y", "print(set(x, 1), y)"}, {"print (x), y", "print(x, y)"}, {"print (x) y", "print(cat(x, y))"}, {"print -x", "print(minus(x))"}, {"print !x", "print(not(x))"},
		{"print $0", "print(field(0))"}, {"print \"a\" > b", "print(more(\"a\", b))"}, {"print NR", "print(NR)"}, {"print length(x)", "print(call length(x))"}, {"print (/a/)", `print(/"a"/)`}, {"print !/a/, /b/", `print(not(/"a"/), /"b"/)`},
		{"next", "next"}, {"delete x[1]", "drop x(1)"}, {"delete x[y = z[1] \"a\"]", "drop x(set(y, cat(cell z(1), \"a\")))"},
		{"x", "do(x)"}, {"x = 1", "do(set(x, 1))"}, {"x += 1", "do(plus(x, 1))"}, {"!x", "do(not(x))"}, {"(x)", "do(x)"}, {"/a/", `do(/"a"/)`}, {"\"print\"", `do("print")`}, {"length()", "do(call length)"},
	}
	closed := []parseCase{
		{"{ }", "block"}, {"{ next }", "block(next)"}, {"{ { } }", "block(block)"}, {"{;}", "block"},
		{"if (x) { }", "if(x, block)"}, {"if (x) { next }", "if(x, block(next))"}, {"if (x) { } else { }", "if(x, block, block)"}, {"if (x = 1) { y } else { z; }", "if(set(x, 1), block(do(y)), block(do(z)))"},
		{"if (/a/) { }", `if(/"a"/, block)`}, {"if ((x)) { } else { if (y) { } else { } }", "if(x, block, block(if(y, block, block)))"}, {"if (x) { if (y) { } } else { next }", "if(x, block(if(y, block)), block(next))"},
		{"while (x) { }", "while(x, block)"}, {"while (x < 3) { x += 1 }", "while(less(x, 3), block(do(plus(x, 1))))"}, {"while (x) { while (y) { next } }", "while(x, block(while(y, block(next))))"},
	}
	for _, a := range statements {
		// `;` may be left out ahead of a `}`.
		checkParse(t, "{"+a.src+"}", "all: block("+a.want+")")
		checkParse(t, "{ "+a.src+" ; }", "all: block("+a.want+")")
		checkParse(t, "BEGIN { if (x) { "+a.src+" } }", "begin: block(if(x, block("+a.want+")))")
		// One alone is nothing.
		checkParse(t, "x {;;"+a.src+";;\n;}", "some x: block("+a.want+")")
		for _, b := range statements {
			checkParse(t, "{"+a.src+";"+b.src+"}", "all: block("+a.want+", "+b.want+")")
		}
		for _, b := range closed {
			checkParse(t, "{"+a.src+";"+b.src+"}", "all: block("+a.want+", "+b.want+")")
			checkParse(t, "{"+b.src+a.src+"}", "all: block("+b.want+", "+a.want+")")
			checkParse(t, "{"+b.src+";"+a.src+";"+b.src+";}", "all: block("+b.want+", "+a.want+", "+b.want+")")
		}
	}
	for _, a := range closed {
		checkParse(t, "{"+a.src+"}", "all: block("+a.want+")")
		checkParse(t, "{"+a.src+";;}", "all: block("+a.want+")")
		for _, b := range closed {
			checkParse(t, "{"+a.src+b.src+"}", "all: block("+a.want+", "+b.want+")")
		}
	}
	for _, src := range []string{"{}", "{;}", "{;;}", "{ ; ; }", "{\n;\n}", "{#;x\n}"} {
		checkParse(t, src, "all: block")
	}
}

func TestParseAtoms(t *testing.T) {
	for _, c := range []parseCase{
		{"0", "0"}, {"1", "1"}, {"2.5", "2.5"}, {"0.000001", "1e-06"}, {"9000000", "9e+06"}, {"007", "7"},
		{`""`, `""`}, {`"a"`, `"a"`}, {`"a\"b\\"`, `"a\"b\\"`}, {`"x = 1"`, `"x = 1"`}, {`"NR"`, `"NR"`}, {`"$"`, `"$"`}, {`"("`, `"("`}, {`";"`, `";"`}, {`"length"`, `"length"`}, {`"else"`, `"else"`}, {"\"\xff\u00e9\x00\"", `"\xffé\x00"`},
		{"/a/", `/"a"/`}, {"//", `/""/`}, {`/a\/b\.c/`, `/"a/b\\.c"/`}, {"/(/", `/"("/`},
		{"x", "x"}, {"abcdefgh", "abcdefgh"}, {"nr", "nr"}, {"Nr", "Nr"}, {"begin", "begin"}, {"Print", "Print"}, {"lengths", "lengths"}, {"END", "END"}, {"toupper", "toupper"},
		{"x[1]", "cell x(1)"}, {"x [ 1 ]", "cell x(1)"}, {"x[y]", "cell x(y)"}, {"x[y[z[1]]]", "cell x(cell y(cell z(1)))"}, {"x[y = 1]", "cell x(set(y, 1))"}, {"x[a b]", "cell x(cat(a, b))"}, {"x[/a/]", `cell x(/"a"/)`}, {"x[(1)]", "cell x(1)"},
		{"NR", "NR"}, {"NF", "NF"},
		{"(x)", "x"}, {"((x))", "x"}, {"(1)", "1"}, {"(x = 1)", "set(x, 1)"}, {"(NR)", "NR"}, {"( ( \"a\" ) )", `"a"`}, {"(x[1])", "cell x(1)"}, {"(x += (y = 1))", "plus(x, set(y, 1))"}, {"(a || b)", "or(a, b)"},
		// `$` is of the atom behind it alone.
		{"$1", "field(1)"}, {"$x", "field(x)"}, {"$NF", "field(NF)"}, {"$NR", "field(NR)"}, {"$$1", "field(field(1))"}, {"$$$x", "field(field(field(x)))"}, {"$(1)", "field(1)"}, {"$(NF - 1)", "field(sub(NF, 1))"}, {"$NF - 1", "sub(field(NF), 1)"},
		{"$x[1]", "field(cell x(1))"}, {"$x[1] 2", "cat(field(cell x(1)), 2)"}, {"$length(x)", "field(call length(x))"}, {"$\"1\"", `field("1")`}, {"$/a/", `field(/"a"/)`}, {"$(-1)", "field(minus(1))"}, {"$(x = 1)", "field(set(x, 1))"},
		{"$1 2", "cat(field(1), 2)"}, {"$1$2", "cat(field(1), field(2))"}, {"$1 * 2", "mul(field(1), 2)"}, {"-$1", "minus(field(1))"}, {"!$1", "not(field(1))"}, {"$(1) (2)", "cat(field(1), 2)"}, {"$x (y)", "cat(field(x), y)"},
		// Calls.
		{"length()", "call length"}, {"length(x)", "call length(x)"}, {"length (x)", "call length(x)"}, {"length\n( )", "call length"}, {"substr(x, 1)", "call substr(x, 1)"}, {"substr(x, 1, 2)", "call substr(x, 1, 2)"}, {"index(x, \"a\")", `call index(x, "a")`},
		{"int(1, 2, 3, 4, 5)", "call int(1, 2, 3, 4, 5)"}, {"upper()", "call upper"}, {"lower(x y)", "call lower(cat(x, y))"}, {"int((x), (y))", "call int(x, y)"}, {"int(x = 1, y += 2)", "call int(set(x, 1), plus(y, 2))"},
		{"upper(lower(x))", "call upper(call lower(x))"}, {"length(/a/, /b/)", `call length(/"a"/, /"b"/)`}, {"int(x) (y)", "cat(call int(x), y)"}, {"index(-x, !y)", "call index(minus(x), not(y))"},
		// A name that is none of the six is no call.
		{"x(1)", "cat(x, 1)"}, {"x (y) (z)", "cat(cat(x, y), z)"}, {"NR(1)", "cat(NR, 1)"}, {"NF (x)", "cat(NF, x)"}, {"Length(x)", "cat(Length, x)"},
	} {
		checkE(t, c.src, c.want)
	}
}

// signOps has each sign between two es with how it is shown, by the levels of
// the chapter, what binds last first.
var signOps = [][]parseCase{
	{{"||", "or"}},
	{{"&&", "and"}},
	{{"~", "fits"}},
	{{"<", "less"}, {"<=", "most"}, {">", "more"}, {">=", "least"}, {"==", "same"}, {"!=", "other"}},
	{{"", "cat"}},
	{{"+", "add"}, {"-", "sub"}},
	{{"*", "mul"}, {"/", "div"}, {"%", "mod"}},
}

func isComparison(level int) bool { return level == 3 }

// TestParseTwoSigns: of two signs that are beside each other the one of the
// lower level binds first, and of one level the left one.
func TestParseTwoSigns(t *testing.T) {
	for i, above := range signOps {
		for _, a := range above {
			checkE(t, "p "+a.src+" q", a.want+"(p, q)")
			for j, below := range signOps {
				for _, b := range below {
					src := "p " + a.src + " q " + b.src + " r"
					switch {
					case i == j && isComparison(i):
						checkRefused(t, "p "+a.src+" q @"+b.src+" r")
						checkRefused(t, "{ x = p "+a.src+" q @"+b.src+" r; }")
						checkRefused(t, "{ print (p "+a.src+" q @"+b.src+" r); }")
					case i < j:
						checkE(t, src, a.want+"(p, "+b.want+"(q, r))")
					default:
						checkE(t, src, b.want+"("+a.want+"(p, q), r)")
					}
					checkE(t, "(p "+a.src+" q) "+b.src+" r", b.want+"("+a.want+"(p, q), r)")
					checkE(t, "p "+a.src+" (q "+b.src+" r)", a.want+"(p, "+b.want+"(q, r))")
				}
			}
		}
	}
}

func TestParseFromTheLeft(t *testing.T) {
	for _, c := range []parseCase{
		{"a - b - c", "sub(sub(a, b), c)"}, {"a - b + c - d", "sub(add(sub(a, b), c), d)"}, {"a / b / c", "div(div(a, b), c)"}, {"a / b * c % d", "mod(mul(div(a, b), c), d)"},
		{"a b c", "cat(cat(a, b), c)"}, {"a b c d", "cat(cat(cat(a, b), c), d)"}, {"1 2 3", "cat(cat(1, 2), 3)"}, {`"a" "b" "c"`, `cat(cat("a", "b"), "c")`},
		{"a || b || c", "or(or(a, b), c)"}, {"a && b && c", "and(and(a, b), c)"}, {"a || b && c || d", "or(or(a, and(b, c)), d)"}, {"a && b || c && d", "or(and(a, b), and(c, d))"},
		{"a ~ b ~ c", "fits(fits(a, b), c)"}, {"a ~ b !~ c", "not(fits(fits(a, b), c))"}, {"a !~ b ~ c", "fits(not(fits(a, b)), c)"}, {"a !~ b !~ c", "not(fits(not(fits(a, b)), c))"}, {"a !~ b", "not(fits(a, b))"}, {"a ~ b ~ c !~ d", "not(fits(fits(fits(a, b), c), d))"},
		{"a ~ b < c", "fits(a, less(b, c))"}, {"a < b ~ c", "fits(less(a, b), c)"}, {"a < b ~ c < d", "fits(less(a, b), less(c, d))"}, {"a < b !~ c == d ~ e", "fits(not(fits(less(a, b), same(c, d))), e)"}, {"a !~ b && c", "and(not(fits(a, b)), c)"},
		{"a < b && c < d", "and(less(a, b), less(c, d))"}, {"(a < b) < c", "less(less(a, b), c)"}, {"a < (b < c)", "less(a, less(b, c))"}, {"a b < c d", "less(cat(a, b), cat(c, d))"}, {"a + b c * d", "cat(add(a, b), mul(c, d))"},
		{"a b + c", "cat(a, add(b, c))"}, {"a + b c", "cat(add(a, b), c)"}, {"a * b c", "cat(mul(a, b), c)"}, {"a b / c d", "cat(cat(a, div(b, c)), d)"}, {"a + b * c - d / e", "sub(add(a, mul(b, c)), div(d, e))"},
		// Units bind first of all.
		{"-a", "minus(a)"}, {"!a", "not(a)"}, {"--a", "minus(minus(a))"}, {"- - a", "minus(minus(a))"}, {"!!a", "not(not(a))"}, {"!-a", "not(minus(a))"}, {"-!a", "minus(not(a))"}, {"!!!-a", "not(not(not(minus(a))))"},
		{"-a * b", "mul(minus(a), b)"}, {"a * -b", "mul(a, minus(b))"}, {"a * !b * c", "mul(mul(a, not(b)), c)"}, {"-a - -b", "sub(minus(a), minus(b))"}, {"a--b", "sub(a, minus(b))"}, {"a - - b", "sub(a, minus(b))"}, {"a---b", "sub(a, minus(minus(b)))"}, {"a + !b", "add(a, not(b))"},
		{"-a b", "cat(minus(a), b)"}, {"!a b", "cat(not(a), b)"}, {"!a ~ b", "fits(not(a), b)"}, {"!a < b", "less(not(a), b)"}, {"a < !b", "less(a, not(b))"}, {"a < -b", "less(a, minus(b))"}, {"!a && !b", "and(not(a), not(b))"}, {"!a || -b", "or(not(a), minus(b))"}, {"a ~ !b", "fits(a, not(b))"},
		{"!(a && b)", "not(and(a, b))"}, {"-(a + b)", "minus(add(a, b))"}, {"-a[1]", "minus(cell a(1))"}, {"!length(a)", "not(call length(a))"}, {"-1", "minus(1)"}, {"-1.5", "minus(1.5)"}, {"!/a/", `not(/"a"/)`}, {"a !~ -b", "not(fits(a, minus(b)))"}, {"a == !b", "same(a, not(b))"},
		// Sets, from the right, and of what is behind them all.
		{"a = b", "set(a, b)"}, {"a += b", "plus(a, b)"}, {"a = b = c", "set(a, set(b, c))"}, {"a = b += c = d", "set(a, plus(b, set(c, d)))"}, {"a[1] = b", "set(cell a(1), b)"}, {"a[1] += b[2] = c", "plus(cell a(1), set(cell b(2), c))"}, {"a[b = 1] = c", "set(cell a(set(b, 1)), c)"},
		{"a = b || c", "set(a, or(b, c))"}, {"a = b c", "set(a, cat(b, c))"}, {"a = b < c", "set(a, less(b, c))"}, {"a = b == c", "set(a, same(b, c))"}, {"a = b ~ c", "set(a, fits(b, c))"}, {"a = -b", "set(a, minus(b))"}, {"a = !b", "set(a, not(b))"}, {"a = /b/", `set(a, /"b"/)`}, {"a=b+c", "set(a, add(b, c))"}, {"a+=b+c", "plus(a, add(b, c))"},
		{"(a = b) + c", "add(set(a, b), c)"}, {"c + (a = b)", "add(c, set(a, b))"}, {"a = (b = c)", "set(a, set(b, c))"}, {"a = (b) c", "set(a, cat(b, c))"}, {"(a = b) c", "cat(set(a, b), c)"}, {"x = a && (b = c)", "set(x, and(a, set(b, c)))"}, {"a == b", "same(a, b)"}, {"a[1] == b", "same(cell a(1), b)"}, {"a [ 1 ] = b", "set(cell a(1), b)"},
		// Words beside each other without a blank between.
		{`a "+" b`, `cat(cat(a, "+"), b)`}, {`a "=" b`, `cat(cat(a, "="), b)`}, {`a "~" b`, `cat(cat(a, "~"), b)`}, {`a "<" "||"`, `cat(cat(a, "<"), "||")`}, {`a "["`, `cat(a, "[")`}, {`"!" a`, `cat("!", a)`}, {`/-/ "-"`, `cat(/"-"/, "-")`}, {`a * "*" + "/"`, `add(mul(a, "*"), "/")`},
		{"a\"b\"c", `cat(cat(a, "b"), c)`}, {"1a", "cat(1, a)"}, {"a1", "cat(a, 1)"}, {"a$b", "cat(a, field(b))"}, {"(a)(b)", "cat(a, b)"}, {"a[1]b[2]", "cat(cell a(1), cell b(2))"}, {"a#b\nc", "cat(a, c)"},
	} {
		checkE(t, c.src, c.want)
	}
}

// TestParseRowGoesOn: what a row goes on with, and what it does not.
func TestParseRowGoesOn(t *testing.T) {
	begins := []parseCase{
		{"x", "x"}, {"1", "1"}, {`"t"`, `"t"`}, {`"!"`, `"!"`}, {"$1", "field(1)"}, {"$$1", "field(field(1))"}, {"(y)", "y"}, {"(-y)", "minus(y)"}, {"(!y)", "not(y)"}, {"(/a/)", `/"a"/`}, {"(y = 1)", "set(y, 1)"},
		{"NR", "NR"}, {"NF", "NF"}, {"q[1]", "cell q(1)"}, {"length(x)", "call length(x)"}, {"substr()", "call substr"}, {"index(x)", "call index(x)"}, {"int(1)", "call int(1)"}, {"upper(x)", "call upper(x)"}, {"lower(x)", "call lower(x)"},
	}
	for _, a := range append([]parseCase{{"/a/", `/"a"/`}, {"-x", "minus(x)"}, {"!x", "not(x)"}}, begins...) {
		for _, b := range begins {
			checkE(t, a.src+" "+b.src, "cat("+a.want+", "+b.want+")")
			checkE(t, a.src+" "+b.src+" "+b.src, "cat(cat("+a.want+", "+b.want+"), "+b.want+")")
			checkE(t, "w < "+a.src+" "+b.src, "less(w, cat("+a.want+", "+b.want+"))")
		}
		checkE(t, a.src+" - x", "sub("+a.want+", x)")
		checkE(t, a.src+" + x", "add("+a.want+", x)")
		checkE(t, a.src+" -x y", "cat(sub("+a.want+", x), y)")
		// Inside a block nothing else can stand there; a rule may begin there.
		for _, other := range []string{"!", "{", "BEGIN", "print", "if", "else", "while", "next", "delete"} {
			checkRefused(t, "{ "+a.src+" @"+other+" x }")
			checkRefused(t, "{ p = "+a.src+" @"+other+" x }")
			checkRefused(t, "{ print ("+a.src+" @"+other+" x) }")
			checkRefused(t, "{ w["+a.src+" @"+other+" x] }")
			if strings.Contains("! { BEGIN", other) {
				continue
			}
			checkRefused(t, a.src+" @"+other+" x")
			checkRefused(t, a.src+" @"+other+" (x) { }")
		}
		checkParse(t, a.src+" !x", "some "+a.want+": block(print); some not(x): block(print)")
		checkParse(t, a.src+" {x}", "some "+a.want+": block(do(x))")
		checkParse(t, a.src+" BEGIN {x}", "some "+a.want+": block(print); begin: block(do(x))")
	}
	// A `/` behind a value is a sign, whatever is behind it.
	checkE(t, "x / y", "div(x, y)")
	checkRefused(t, "{ x /a/@; }")
	checkRefused(t, "{ print @/a/; }")
	checkParse(t, "x /a/ /b/", `some div(div(x, a), /"b"/): block(print)`)
}

func TestParseKeywordsAsNames(t *testing.T) {
	for _, word := range []string{"BEGIN", "print", "if", "else", "while", "next", "delete"} {
		for _, marked := range []string{
			"{ x = @W; }", "{ x = @W = 1; }", "{ x[@W] }", "{ x + @W }", "{ (@W) }", "{ -@W }", "{ $@W }", "{ length(@W) }", "{ print @W }", "{ print x, @W }", "{ if (@W) { } }", "{ delete @W[1] }", "{ x < @W }", "{ x && @W }", "{ (x @W) }",
		} {
			checkRefused(t, strings.ReplaceAll(marked, "W", word))
		}
	}
	for _, word := range []string{"print", "if", "else", "while", "next", "delete"} {
		checkRefused(t, "@"+word)
		checkRefused(t, "@"+word+" = 1")
		checkRefused(t, "{ } @"+word+" { }")
		checkRefused(t, "x { } @"+word+" (x) { }")
	}
	for _, word := range []string{"length", "substr", "index", "int", "upper", "lower"} {
		for _, marked := range []string{"{ W @}", "{ W @= 1 }", "{ W @+= 1 }", "{ W@[1] }", "{ W@; }", "{ delete @W[1] }", "{ $W @}", "{ W @W }", "{ W @x }", "{ W @$1 }", "{ W(x) @= 1 }", "{ W() @+= 1 }", "W@", "W @{ }", "x W @y"} {
			checkRefused(t, strings.ReplaceAll(marked, "W", word))
		}
		checkE(t, word+"()", "call "+word)
		checkE(t, word+"(x, y)", "call "+word+"(x, y)")
	}
	for _, word := range []string{"NR", "NF"} {
		for _, marked := range []string{"{ W @= 1 }", "{ W @+= 1 }", "{ W@[1] }", "{ W@[1] = 2 }", "{ delete @W[1] }", "{ x = W @= 1 }"} {
			checkRefused(t, strings.ReplaceAll(marked, "W", word))
		}
	}
	// All others are names like any.
	for _, word := range []string{"x", "Begin", "END", "printf", "PRINT", "iff", "nr", "nF", "do", "for", "exit", "function", "N", "R", "lengt", "sub"} {
		checkE(t, word, word)
		checkE(t, word+" = 1", "set("+word+", 1)")
		checkE(t, word+"[1] += 1", "plus(cell "+word+"(1), 1)")
		checkParse(t, "{ delete "+word+"[1] }", "all: block(drop "+word+"(1))")
	}
}

// TestParseRefused: a token that does not fit, at each place, the end too.
func TestParseRefused(t *testing.T) {
	for what, list := range map[string][]string{
		"rules": {
			"@;", "@}", "@)", "@]", "@,", "@=", "@<", "@~", "@*", "@+", "@&&", "@[", "@!~", "x@;", "x@; y", "{ }@;", "{ } @}", "x { } @}", "x { } @)", "{ } @, { }",
			"BEGIN@", "BEGIN @x { }", "BEGIN @BEGIN { }", "BEGIN@;", "BEGIN @(x) { }", "BEGIN @= 1", "BEGIN { @", "BEGIN { x@", "BEGIN { x; @",
			"x @, y", "x @)", "x @]", "x @}", "x < y @< z", "x = y @, z", "x y @= 1", "x { } y @;", "x BEGIN@", "x BEGIN @y", "x ! @", "x !y @}",
			"! @", "- @", "$ @", "( @", "x = @", "x += @", "x < @", "x ~ @", "x !~ @", "x && @", "x || @", "x + @", "x * @", "x[ @", "x[1@", "(x@", "length@", "length(@", "length(x@", "length(x,@",
		},
		"blocks": {
			"{@", "{ {@", "{ { }@", "{;@", "{ x@", "{ x;@", "{ @)", "{ @]", "{ @,", "{ @= 1 }", "{ @else { } }", "{ x; @else { } }", "{ x @{ } }", "{ x @) }", "{ x } @}", "{ { } } @}", "{ } @else { }", "{ @BEGIN { } }",
			"{ next @x }", "{ next @next }", "{ next @print }", "{ next @, }", "{ next @{ } }", "{ next @( }", "{ next@", "{ next @= 1 }", "{ x @next }", "{ x @print x }", "{ print x @print y }", "{ x = 1 y @= 2 }", "{ x @if (y) { } }", "{ x @while (y) { } }", "{ x @delete y[1] }",
		},
		"print": {
			"{ print@", "{ print @, x }", "{ print x,@", "{ print x, @}", "{ print x, @; }", "{ print x,@, y }", "{ print @) }", "{ print @= }", "{ print @/a/ }", "{ print x = 1 @= 2 }", "{ print @next }", "{ print @] }", "{ print @{ } }", "{ print x @{ } }", "{ print x @) }", "{ print x @] }", "{ print x y @= 1 }", "{ print (x@, y) }", "{ print (@) }", "{ print x @else }",
		},
		"if": {
			"{ if@", "{ if @}", "{ if @x { } }", "{ if @{ } }", "{ if @; }", "{ if (@) { } }", "{ if (@", "{ if (x @{ } }", "{ if (x@, y) { } }", "{ if (x = 1 @= 2) { } }", "{ if (x@", "{ if (x@; y) { } }", "{ if (x)@", "{ if (x) @x }", "{ if (x) @next }", "{ if (x) @; }", "{ if (x) @}", "{ if (x) @if (y) { } }", "{ if (x) @(y) { } }", "{ if (x) @else { } }", "{ if (x) {@", "{ if (x) { }@", "{ if (x) { } @, }",
			"{ if (x) { } else@", "{ if (x) { } else @x }", "{ if (x) { } else @if (y) { } }", "{ if (x) { } else @; }", "{ if (x) { } else @}", "{ if (x) { } else { }@", "{ if (x) { }; @else { } }", "{ if (x) { } else { } @else { } }", "{ if (x) { @else { } } }", "{ if (x) { next @else { } } }", "{ if (x) { } { } @else { } }",
		},
		"while": {
			"{ while@", "{ while @}", "{ while @x { } }", "{ while (@) { } }", "{ while (x @}", "{ while (x@, y) { } }", "{ while (x@; y) { } }", "{ while (x)@", "{ while (x) @; }", "{ while (x) @x }", "{ while (x) @while (y) { } }", "{ while (x) {@", "{ while (x) { }@", "{ while (x) { } @else { } }", "{ while (x) { } @, }",
		},
		"delete": {
			"{ delete@", "{ delete @; }", "{ delete @}", "{ delete @1 }", "{ delete @(x)[1] }", "{ delete @\"x\"[1] }", "{ delete @$x[1] }", "{ delete x@", "{ delete x @; }", "{ delete x @}", "{ delete x @(1) }", "{ delete x @y }", "{ delete x[@", "{ delete x[@] }", "{ delete x[1@", "{ delete x[1 @}", "{ delete x[1@, 2] }", "{ delete x[1]@", "{ delete x[1] @= 2 }", "{ delete x[1]@[2] }", "{ delete x[1] @, y[1] }", "{ delete x[1] @{ } }", "{ delete x[1] @x }", "{ delete x[1] @+ 1 }",
		},
		"sets": {
			"{ x = @; }", "{ x = @}", "{ x = @= y }", "{ x += @+= 1 }", "{ x[1] = @}", "{ x == y @= 1 }", "{ (x) @= 1 }", "{ ((x)) @+= 1 }", "{ (x[1]) @= 1 }", "{ (x = 1) @= 2 }", "{ 1 @= 1 }", "{ \"x\" @= 1 }", "{ $1 @= 1 }", "{ $x @= 1 }", "{ $x[1] @+= 1 }", "{ -x @= 1 }", "{ !x @+= 1 }", "{ !x[1] @= 1 }", "{ x y @= 1 }", "{ x[1] y @= 1 }", "{ x + y @= 1 }", "{ x * y[1] @= 1 }", "{ x < y @= 1 }", "{ x ~ y @+= 1 }", "{ x && y @= 1 }", "{ x || y[1] @= 1 }", "{ /a/ @= 1 }",
			"{ x = y z @= 1 }", "{ x = 1 @= 1 }", "{ x = -y @= 1 }", "{ x = (y) @= 1 }", "{ x[1]@[2] = 1 }", "{ x(y) @= 1 }", "{ x - @= 1 }", "{ (x + y @= 1) }", "{ x[y z @= 1] }", "x y @= 1", "(x) @= 1 { }", "{ length(x) @= 1 }",
		},
		"es": {
			"{ x @! y }", "{ x @! ~ y }", "{ x @! = y }", "{ x + @}", "{ x + @* y }", "{ x * @* y }", "{ x + @+ y }", "{ x - @+ y }", "{ x [ @}", "{ x[@] }", "{ x[1 @) }", "{ x[1@, 2] }", "{ x[1 @} }", "{ (@) }", "{ (x@, y) }", "{ (x @] }", "{ (x @} }", "{ (x@; }", "{ ((x) @}", "{ (x)@) }", "{ ! @}", "{ - @; }", "{ -@+x }", "{ @+ x }", "{ $ @}", "{ $@-1 }", "{ $@!x }", "{ $$ @}", "{ $(@) }", "{ $@; }", "{ $@+1 }",
			"{ x < @< y }", "{ x < @= y }", "{ x < @}", "{ x ~ @~ y }", "{ x ~ @}", "{ x !~ @!~ y }", "{ x && @&& y }", "{ x || @|| y }", "{ x && @|| y }", "{ x || @}", "{ x @, y }", "{ 1@[2] }", "{ \"a\"@[1] }", "{ x[1]@[2] }", "{ (x)@[1] }", "{ $(x)@[1] }", "{ int(x)@[1] }", "{ /a/@[1] }", "{ x < y @>= z }", "{ x == y @!= z }", "{ x < y z @< w }", "{ x ~ y < z @> w }", "{ x < -y @< z }", "{ @* x }", "{ @~ x }", "{ @&& x }", "{ @% x }", "{ @== x }",
		},
		"calls": {
			"{ length @x }", "{ length(@", "{ length(@, x) }", "{ length(x @", "{ length(x,@) }", "{ length(x, @, y) }", "{ length(x @] }", "{ length(x@; }", "{ length(@] }", "{ length(x) @) }", "{ length(@; }", "{ length(@} }", "{ length @[x] }", "{ substr(x, 1, @) }", "{ index(x y @= z) }", "{ length(x @} }", "{ length(x @{ } }", "{ length(x, @; }", "{ length(@print) }", "{ length() @, }",
		},
	} {
		for _, marked := range list {
			t.Run(what, func(t *testing.T) { checkRefused(t, marked) })
		}
	}
}

// TestParseNoTokens: what Tokens refuses is told by its place, whatever does not
// fit ahead of it.
func TestParseNoTokens(t *testing.T) {
	for _, src := range []string{
		"@", "x @", "{ x = @ }", "x\t", "{ & }", "x | y", "x.", ".5", "{ x = 1.1234567 }", "9000001", "abcdefghi", "{ x = abcdefghi; }", `"`, `{ print "a }`, "{ \"a\nb\" }", "/a", "x = /a", "{ x = ( /", "\xff", "\u00e9", "{ x \x00 }", "'x'", "{ x = 1 } ? y",
		// Ahead of these a token does not fit, too.
		"} @", "; x = \"", "{ = ) abcdefghi", "print 9000001", "x y = 1 &", "{ if x { } } \t",
	} {
		list, at := impl.Tokens(src)
		if at == -1 || len(list) != 0 {
			t.Errorf("Tokens(%q) tells %d", src, at)
		}
		checkNoParse(t, src, at)
	}
	// Every byte that begins no token.
	for b := range 256 {
		src := "{ x = 1; } " + string([]byte{byte(b)})
		if _, at := impl.Tokens(src); at != -1 {
			checkNoParse(t, src, at)
			checkNoParse(t, ") "+src, at+2)
		}
	}
}

func TestParseLimit(t *testing.T) {
	const most = impl.MaxSource
	checkParse(t, fill("", " ", "", most), "")
	checkParse(t, fill("x", " ", "", most), "some x: block(print)")
	checkParse(t, fill("{", ";", "}", most), "all: block")
	checkParse(t, fill("", "{}", "", most), strings.Repeat("; all: block", most/2)[2:])
	checkParse(t, fill("{", "x;", "}", most), "all: block("+strings.Repeat(", do(x)", most/2-1)[2:]+")")
	checkParse(t, fill("{ print x", ",1", "}", most), "all: block(print(x"+strings.Repeat(", 1", (most-10)/2)+"))")
	checkParse(t, fill("int(x", ",1", ")", most), "some call int(x"+strings.Repeat(", 1", (most-6)/2)+"): block(print)")
	for _, size := range []int{most + 1, most + 2, 10000} {
		for _, src := range []string{fill("", " ", "", size), fill("x", " ", "", size), fill("{", ";", "}", size), fill("", "{}", "", size), fill("}", " ", "", size), fill("", "(", "", size)} {
			checkNoParse(t, src, 0)
		}
	}
	// What does not fit at the end of the longest source.
	checkNoParse(t, fill("{", ";", ")", most), most-1)
	checkNoParse(t, fill("{", ";", "", most), most)
	checkNoParse(t, fill("x", " ", "=", most), most)
}

// nestedE has ways to put an e into another one: one more is within each other
// by it (two, where it says so). What is put in is in brackets where it must be.
var nestedE = map[string]int{
	"!#": 1, "-#": 1, "!(#)": 1, "-(#)": 1, "$#": 1, "$(#)": 1, "a[#]": 1, "int(#)": 1, "substr(b, 1, #)": 1, "index(#, b)": 1, "a = #": 1, "a += #": 1, "a[1] = -(#)": 2, "a[#] = b": 2, "a[#] += b": 2,
	"# || b": 1, "# && b": 1, "# ~ b": 1, "# !~ b": 2, "# b": 1, "# + b": 1, "# - b": 1, "# * b": 1, "# / b": 1, "# % b": 1,
	"b || (#)": 1, "b && (#)": 1, "b ~ (#)": 1, "b !~ (#)": 2, "b (#)": 1, "b + (#)": 1, "b - (#)": 1, "b * (#)": 1, "b / (#)": 1, "b % (#)": 1,
	"(#) < b": 1, "(#) <= b": 1, "(#) > b": 1, "(#) >= b": 1, "(#) == b": 1, "(#) != b": 1, "b < (#)": 1, "b == (#)": 1, "a = b || (#)": 2, "!!#": 2, "$a[#]": 2, "(((#))) 1": 1,
}

// nestedStatement likewise with a statement.
var nestedStatement = map[string]int{
	"{ # }": 1, "{ next; # }": 1, "{ #; next }": 1, "{ { } # }": 1, "if (x) { # }": 2, "if (x) { } else { # }": 2, "if (x) { # } else { }": 2, "while (x) { # }": 2, "{ { # } }": 2, "while (x) { { # } }": 3,
}

// nestedTo is src in the ways of a way, until so many are within each other; the
// rest is made up by what stands in it.
func nestedTo(way string, step int, src string, deep int, now int, more string) string {
	for (deep-now)%step != 0 {
		src = strings.ReplaceAll(more, "#", src)
		now++
	}
	for ; now < deep; now += step {
		src = strings.ReplaceAll(way, "#", src)
	}
	return src
}

// checkDeepest asks for a program with trees that are so deep, alone, with other
// rules beside it, and with a token that does not fit behind it.
func checkDeepest(t *testing.T, src string, deep int) {
	t.Helper()
	const more = "\nBEGIN { x }"
	if deep > impl.MaxTree {
		checkNoParse(t, src, 0)
		checkNoParse(t, src+more, 0)
		checkNoParse(t, "BEGIN { } "+src, 0)
		checkNoParse(t, src+more+" "+src, 0)
	} else {
		got := 0
		list, bad := impl.Parse(src + more)
		for _, r := range list {
			got = max(got, impl.Deep(r.Pat), impl.Deep(r.Body))
		}
		if bad != -1 || got != deep {
			t.Errorf("Parse(%.120q) has trees %d deep, %d; want %d, -1", src+more, got, bad, deep)
		}
		alone, bad := impl.Parse(src)
		if bad != -1 || len(alone) != len(list)-1 {
			t.Errorf("Parse(%.120q) tells %d rules, %d; want %d, -1", src, len(alone), bad, len(list)-1)
		}
	}
	checkNoParse(t, src+more+" ;", len(src+more)+1)
	checkNoParse(t, src+more+" { x ", len(src+more)+5)
}

func TestParseTreesOfMaxTree(t *testing.T) {
	const most = impl.MaxTree
	for way, step := range nestedE {
		for _, deep := range []int{most - 1, most, most + 1, most + 2, 30} {
			checkDeepest(t, nestedTo(way, step, "x", deep, 1, "-#"), deep)
			checkDeepest(t, nestedTo(way, step, "x", deep, 1, "-#")+" { next }", deep)
			// Within a statement it is within a block too.
			inner := nestedTo(way, step, "x", deep-2, 1, "-#")
			checkDeepest(t, "{ "+inner+" }", deep)
			checkDeepest(t, "BEGIN { next; "+inner+"; }", deep)
			checkDeepest(t, "y { "+inner+" }", deep)
			checkDeepest(t, "{ print 1, "+inner+" }", deep)
			checkDeepest(t, "{ delete x["+inner+"] }", deep)
			checkDeepest(t, "{ if ("+inner+") { } }", deep)
			checkDeepest(t, "{ while ("+inner+") { } }", deep)
		}
	}
	for way, step := range nestedStatement {
		for _, deep := range []int{most - 1, most, most + 1, most + 2, 30} {
			for _, leaf := range []string{"next", "print", "{ }"} {
				inner := nestedTo(way, step, leaf, deep-1, 1, "{ # }")
				checkDeepest(t, "{ "+inner+" }", deep)
				checkDeepest(t, "BEGIN { "+inner+" }", deep)
				checkDeepest(t, "y { x; "+inner+" }", deep)
			}
		}
	}
	// Brackets are nothing of the tree, however many they are.
	for _, n := range []int{1, most, most + 1, 100, 900} {
		open, shut := strings.Repeat("(", n), strings.Repeat(")", n)
		checkParse(t, open+"x"+shut, "some x: block(print)")
		checkParse(t, "{ "+open+"-x"+shut+" }", "all: block(do(minus(x)))")
		checkNoParse(t, open+"x"+shut+")", 2*n+1)
		checkNoParse(t, open+"x"+shut[1:], 2*n)
		checkNoParse(t, open+shut, n)
	}
	// Many beside each other are not within each other.
	checkParse(t, "{"+strings.Repeat("{}", 900)+"}", "all: block("+strings.Repeat(", block", 900)[2:]+")")
	checkParse(t, "{"+strings.Repeat("-x;", 600)+"}", "all: block("+strings.Repeat(", do(minus(x))", 600)[2:]+")")
}

// TestParseVeryDeep: what goes as deep as a source may is told, and soon.
func TestParseVeryDeep(t *testing.T) {
	for _, c := range []struct{ ahead, inner, behind string }{
		{"(", "x", ")"}, {"!", "x", ""}, {"-", "x", ""}, {"$", "x", ""}, {"$(", "x", ")"}, {"a[", "x", "]"}, {"a=", "x", ""}, {"a+=", "x", ""}, {"int(", "x", ")"}, {"int(int(1),", "x", ")"}, {"a[a[1]]=a[", "x", "]"}, {"x ", "x", ""}, {"x-", "x", ""}, {"x~", "x", ""}, {"x||", "x", ""}, {"x&&", "x", ""}, {"x/", "x", ""}, {"x<(", "x", ")"}, {"!(-(", "x", "))"},
	} {
		n := (impl.MaxSource - 4) / len(c.ahead+c.behind)
		ahead, behind := strings.Repeat(c.ahead, n), strings.Repeat(c.behind, n)
		src := ahead + c.inner + behind
		if c.ahead == "(" {
			checkParse(t, src, "some x: block(print)")
		} else {
			checkNoParse(t, src, 0)
		}
		// Cut off anywhere the end does not fit, or it is too deep, or it is right.
		for at := 0; at < len(src); at += 97 {
			if _, half := impl.Tokens(src[:at]); half != -1 {
				continue
			}
			if list, bad := impl.Parse(src[:at]); bad == -1 != (len(list) > 0 || at == 0) || bad > 0 && bad != at {
				t.Errorf("Parse(%.40q ..) of %d bytes tells %d rules, %d", src, at, len(list), bad)
			}
		}
		checkNoParse(t, ahead+"]"+behind, len(ahead))
		checkNoParse(t, "{"+ahead+"{", len(ahead)+1)
	}
	const many = 480
	for _, c := range [][2]string{{"{", "}"}, {"{;", "}"}, {"{if(x)", "}"}, {"{while(x)", "}"}, {"{if(x){}else", "}"}} {
		n := min(many, 1900/len(c[0]+c[1]+"{}"))
		ahead, behind := strings.Repeat(c[0], n)+"{", "}"+strings.Repeat(c[1], n)
		checkNoParse(t, ahead+behind, 0)
		checkNoParse(t, ahead+behind+"}", len(ahead+behind))
		checkNoParse(t, ahead+behind[1:], len(ahead+behind)-1)
		checkNoParse(t, ahead, len(ahead))
		checkNoParse(t, ahead+")"+behind, len(ahead))
	}
}

func leafNode(op int) impl.Node { return impl.Node{Op: op, N: -1, S: "s"} }

func TestDeep(t *testing.T) {
	check := func(what string, n impl.Node, want int) {
		t.Helper()
		if got := impl.Deep(n); got != want {
			t.Errorf("Deep of %s = %d, want %d", what, got, want)
		}
	}
	// A leaf, of whatever op, right or not, with nil or an empty list.
	check("zero", impl.Node{}, 1)
	check("an empty list", impl.Node{Kids: []impl.Node{}}, 1)
	check("an empty list with room", impl.Node{Kids: make([]impl.Node, 3)[:0]}, 1)
	for _, op := range []int{-1, 0, 1, impl.NdVar, impl.NdAdd, impl.NdDo, 36, math.MaxInt, math.MinInt} {
		check("a leaf", leafNode(op), 1)
		check("one in one", impl.Node{Op: op, Kids: []impl.Node{leafNode(op)}}, 2)
	}
	// A row of trees, of whatever depth; the deepest one counts, wherever it is.
	chain := leafNode(1)
	for deep := 1; deep <= 2000; deep++ {
		if deep < 40 || deep%100 == 0 {
			check("a chain", chain, deep)
			for at := range 4 {
				kids := []impl.Node{leafNode(1), {Kids: []impl.Node{leafNode(2)}}, leafNode(3), {Kids: []impl.Node{leafNode(4), leafNode(5)}}}
				kids[at] = chain
				check("a chain among others", impl.Node{Kids: kids}, 1+max(2, deep))
			}
			check("a chain and others", impl.Node{Kids: []impl.Node{{Kids: []impl.Node{{}}}, {}, {Kids: []impl.Node{{}, chain}}}}, max(deep+2, 3))
		}
		chain = impl.Node{Op: deep, Kids: []impl.Node{chain}}
	}
	for range 1000000 {
		chain = impl.Node{Kids: []impl.Node{chain}}
	}
	check("a long chain", chain, 1002001)
	wide := impl.Node{Kids: make([]impl.Node, 100000)}
	check("many beside each other", wide, 2)
	wide.Kids[77777] = impl.Node{Kids: []impl.Node{{}, {Kids: []impl.Node{{}}}}}
	check("many beside a deep one", wide, 4)
}

// TestDeepShared: lists that are handed to several nodes, or hold themselves.
func TestDeepShared(t *testing.T) {
	check := func(what string, n impl.Node, want int) {
		t.Helper()
		if got := impl.Deep(n); got != want {
			t.Errorf("Deep of %s = %d, want %d", what, got, want)
		}
	}
	twice := impl.Node{}
	for deep := 1; deep < 200; deep++ {
		check("the same twice", twice, deep)
		twice = impl.Node{Kids: []impl.Node{twice, twice}}
	}
	// The same list at two depths: the deeper one counts.
	deep := []impl.Node{{Kids: []impl.Node{{Kids: []impl.Node{{}}}}}}
	check("a list near and far", impl.Node{Kids: []impl.Node{{Kids: deep}, {Kids: []impl.Node{{Kids: deep}}}}}, 6)
	check("a list far and near", impl.Node{Kids: []impl.Node{{Kids: []impl.Node{{Kids: deep}}}, {Kids: deep}}}, 6)
	// Lists that begin at the same node, and lists that overlap.
	both := []impl.Node{{}, {Kids: []impl.Node{{Kids: []impl.Node{{}}}}}}
	check("the beginning of a list", impl.Node{Kids: []impl.Node{{Kids: both[:1]}}}, 3)
	check("a list and its beginning", impl.Node{Kids: []impl.Node{{Kids: both}, {Kids: both[:1]}}}, 5)
	check("a beginning and its list", impl.Node{Kids: []impl.Node{{Kids: both[:1]}, {Kids: both}}}, 5)
	check("a list and its end", impl.Node{Kids: []impl.Node{{Kids: both[1:]}, {Kids: both}}}, 5)
	check("what is behind a list is none of it", impl.Node{Kids: both[:1:2]}, 2)
	// What holds itself ends, and is deeper than a tree may be.
	for size := 1; size <= 5; size++ {
		kids := make([]impl.Node, size)
		for i := range kids {
			kids[i] = impl.Node{Op: impl.NdAdd, Kids: kids}
			if got := impl.Deep(impl.Node{Kids: kids}); got <= impl.MaxTree {
				t.Errorf("Deep of what holds itself = %d", got)
			}
			if got := impl.Deep(kids[i]); got <= impl.MaxTree {
				t.Errorf("Deep within what holds itself = %d", got)
			}
		}
	}
	ring := make([]impl.Node, 50)
	for i := range ring {
		ring[i].Kids = ring[(i+1)%50 : (i+1)%50+1]
	}
	if got := impl.Deep(ring[7]); got <= impl.MaxTree {
		t.Errorf("Deep of a ring = %d", got)
	}
	ring[49].Kids = nil
	check("a ring that is cut", ring[7], 43)
	check("nodes of one list within each other", impl.Node{Kids: ring}, 51)
}

func TestDeepWritesNothing(t *testing.T) {
	list, _ := impl.Parse("{ x = a[1] + -2 * length(\"a\", b c); if (y) { print } else { next } }")
	body := list[0].Body
	room := append(slices.Clone(body.Kids), impl.Node{Op: 77, S: "room"})
	body.Kids = room[:len(room)-1]
	before := fmt.Sprint(room)
	if got := impl.Deep(body); got != 8 {
		t.Errorf("Deep = %d, want 8", got)
	}
	if after := fmt.Sprint(room); after != before {
		t.Errorf("Deep turned %s into %s", before, after)
	}
}

// eachKids hands on each list of kids, and the room behind it.
func eachKids(n impl.Node, do func(kids []impl.Node)) {
	do(n.Kids)
	for _, kid := range n.Kids {
		eachKids(kid, do)
	}
}

// TestParseOwnMemory: nothing that is told shares its memory with anything else
// that is told, then or later, nor the room behind it.
func TestParseOwnMemory(t *testing.T) {
	src := "BEGIN { x = 1; y += a[2] } $1 > 2 && !y { print x y, z[1] + 2 * 3, int(x, y, z); { next; { } } if (x) { delete q[1] } else { } while (x !~ /a/) { } } /a/ !x BEGIN { }"
	first, _ := impl.Parse(src)
	second, bad := impl.Parse(src)
	want := shownRules(second)
	if bad != -1 || shownRules(first) != want {
		t.Fatalf("Parse(%q) tells %s, then %s, %d", src, shownRules(first), want, bad)
	}
	seen := map[*impl.Node]int{}
	lists := 0
	for _, r := range first {
		for _, n := range []impl.Node{r.Pat, r.Body} {
			eachKids(n, func(kids []impl.Node) {
				room := kids[len(kids):cap(kids)]
				for i := range room {
					room[i] = impl.Node{Op: -1, S: "written behind"}
				}
				whole := kids[:cap(kids)]
				for i := range whole {
					seen[&whole[i]]++
				}
				lists++
			})
		}
	}
	if shownRules(first) != want || lists < 30 {
		t.Errorf("what is written behind %d lists is seen in others: %s", lists, shownRules(first))
	}
	for at, times := range seen {
		if times != 1 {
			t.Errorf("%v lies in %d lists", *at, times)
		}
	}
	for at := range seen {
		*at = impl.Node{Op: -1, S: "turned"}
	}
	for i := range first {
		first[i] = impl.Rule{Kind: -1}
	}
	if shownRules(second) != want {
		t.Error("two answers share their memory")
	}
	if third, bad := impl.Parse(src); bad != -1 || shownRules(third) != want {
		t.Errorf("Parse tells %s, %d behind a change of what it told; want %s", shownRules(third), bad, want)
	}
}
