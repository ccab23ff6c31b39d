package tests

import (
	"fmt"
	"slices"
	"strings"
	"testing"

	"loop.example/g00289/impl"
)

// checkNames asks for both lists, each name of which has a blank behind it.
func checkNames(t *testing.T, list []impl.Rule, wantVars string, wantCells string) {
	t.Helper()
	vars, cells := impl.Names(list)
	if !slices.Equal(vars, strings.Fields(wantVars)) || !slices.Equal(cells, strings.Fields(wantCells)) {
		t.Errorf("Names of %.300s = %q, %q; want %q, %q", shownRules(list), vars, cells, wantVars, wantCells)
	}
}

// checkCode asks for a code, and for the same one of what is written and parsed.
func checkCode(t *testing.T, list []impl.Rule, want int) {
	t.Helper()
	if got := impl.Check(list); got != want {
		t.Errorf("Check of %.300s = %d, want %d", shownRules(list), got, want)
	}
	if want == impl.CkTidy {
		return
	}
	back, bad := impl.Parse(impl.Write(list))
	if bad != -1 {
		t.Errorf("what is checked is not parsed: %.300s, %d", shownRules(list), bad)
	} else if got := impl.Check(back); got != want {
		t.Errorf("Check of %.300s, written and parsed, = %d, want %d", shownRules(list), got, want)
	}
}

func rulesFrom(t *testing.T, src string) []impl.Rule {
	t.Helper()
	list, bad := impl.Parse(src)
	if bad != -1 {
		t.Errorf("Parse(%.300q) tells %d", src, bad)
	}
	return list
}

func checkSource(t *testing.T, src string, want int) {
	t.Helper()
	checkCode(t, rulesFrom(t, src), want)
}

func doRule(e impl.Node) impl.Rule { return allRule(ndOf(impl.NdDo, e)) }

func TestCheckConstants(t *testing.T) {
	got := []int{impl.MaxNames, impl.CkDone, impl.CkTidy, impl.CkBegin, impl.CkNames, impl.CkKind, impl.CkArgs, impl.CkRex}
	if want := []int{8, 0, 1, 2, 3, 4, 5, 6}; !slices.Equal(got, want) {
		t.Errorf("constants are %d, want %d", got, want)
	}
}

func TestNames(t *testing.T) {
	for _, c := range []struct{ src, vars, cells string }{
		{"", "", ""}, {"{ }", "", ""}, {"BEGIN { }", "", ""}, {"/a/", "", ""}, {"NR == NF && $1", "", ""}, {`{ print "x", length("y"), 5; next }`, "", ""}, {"/x/ { }", "", ""},
		// Of each kind.
		{"x", "x", ""}, {"x[1]", "", "x"}, {"{ delete x[1] }", "", "x"}, {"{ x = 1 }", "x", ""}, {"{ x += 1 }", "x", ""}, {"{ x[1] = 1 }", "", "x"}, {"{ x[1] += 1 }", "", "x"}, {"{ print x }", "x", ""}, {"$x", "x", ""},
		// Each once.
		{"x x", "x", ""}, {"x { x; x; print x, x } x", "x", ""}, {"x[1] x[2]", "", "x"}, {"x[1] { delete x[1]; x[2]; delete x[1] }", "", "x"}, {"x[x] { delete x[x] }", "x", "x"},
		// Ascending, by bytes, in whichever order they stand.
		{"b a", "a b", ""}, {"a b", "a b", ""}, {"c a b", "a b c", ""}, {"b[1] a[1]", "", "a b"}, {"{ delete c[1]; b[1]; delete a[1] }", "", "a b c"}, {"b { a } c { B } A", "A B a b c", ""},
		{"aa a ab b aaa", "a aa aaa ab b", ""}, {"z Z zz Zz zZ ZZ", "Z ZZ Zz z zZ zz", ""}, {"abcdefgh abcdefg abcdefgi", "abcdefg abcdefgh abcdefgi", ""}, {"Begin END nr lengths prints", "Begin END lengths nr prints", ""},
		// In Pat and in Body, of each rule, within each other.
		{"BEGIN { a = 1 } b[1] { c } d { delete e[f] } g", "a c d f g", "b e"}, {"a[b[c[d]]]", "d", "a b c"}, {"{ delete a[b[c]] }", "c", "a b"}, {"{ if (a) { b } else { c[1] } while (d) { { e } } print f, g[h] }", "a b d e f h", "c g"},
		{"!-(a + b * c / d % e - f)", "a b c d e f", ""}, {"a < b && c <= d || e > f && g >= h || i == j && k != l", "a b c d e f g h i j k l", ""}, {"a ~ b !~ c", "a b c", ""}, {"$a $$b $(c[1])", "a b", "c"}, {"length(a) substr(b, c, d[1]) index(e)", "a b c e", "d"},
		{"{ a = b[c] = d += e[1] }", "a c d", "b e"}, {"{ a[b] = c; d[e] += f }", "b c e f", "a d"},
		// More of them than may run.
		{"a b c d e f g h i j k", "a b c d e f g h i j k", ""}, {"a[1] b[1] c[1] d[1] e[1] f[1] g[1] h[1] i[1] j[1]", "", "a b c d e f g h i j"},
	} {
		checkNames(t, rulesFrom(t, c.src), c.vars, c.cells)
	}
}

// TestNamesEachPlace: a name is told wherever an e may stand, and so is one
// within what stands there.
func TestNamesEachPlace(t *testing.T) {
	x := ndVar("x")
	told := func(r impl.Rule, name string, isVar bool) {
		t.Helper()
		vars, cells := impl.Names([]impl.Rule{allRule(), r})
		if slices.Contains(vars, name) != isVar || slices.Contains(cells, name) == isVar {
			t.Errorf("Names of %s: %q, %q; %s is a var: %t", shownRule(r), vars, cells, name, isVar)
		}
	}
	for _, r := range placesOfE(ndVar("name")) {
		told(r, "name", true)
	}
	for _, r := range placesOfE(ndNamed(impl.NdCell, "name", ndVar("key"))) {
		told(r, "name", false)
		told(r, "key", true)
	}
	for _, way := range wraps() {
		told(someRule(wrapped(ndVar("name"), impl.MaxTree, way, wraps()["minus"])), "name", true)
		told(allRule(ndOf(impl.NdPrint, wrapped(ndNamed(impl.NdCell, "name", x), impl.MaxTree-2, way, wraps()["minus"]))), "name", false)
	}
	for _, way := range statementWraps() {
		told(allRule(wrapped(ndNamed(impl.NdDrop, "name", x), impl.MaxTree-1, way, statementWraps()["block"])), "name", false)
		told(beginRule(wrapped(ndOf(impl.NdDo, ndVar("name")), impl.MaxTree-1, way, statementWraps()["block"])), "name", true)
	}
}

func TestCheckDone(t *testing.T) {
	for _, src := range []string{
		"", "{ }", "{ } { }", "x", "/a/", "/a/ { next }", "$1", "NR == 1 { print NF }", "BEGIN { }", "BEGIN { } { }", "BEGIN { } x { } /a/ { } { }", "BEGIN { x = 1 } { x += $1 } x > 2 { print x; next }",
		"BEGIN { print \"a\", 1; if (x) { y } else { { delete z[1] } } while (0) { } }", "BEGIN { x ~ /a/; x !~ /b/; print x y ~ /a/ }", "BEGIN { length(x ~ /a/) }", "BEGIN { z[x ~ /(a|b)*[^c]$/] = 1 }",
		"$1 ~ /a/ && $2 !~ /b/", "/a/ ~ /b/", "/a/ (/b/)", "!/a/ || /b/", "length(/a/)", "{ x = /a/; z[/b/]; print (/c/), -/d/ }", "{ $/a/ }", "(x ~ /a/) ~ /b/", "{ x ~ /a/ ~ /b/ !~ /c/ }", "//",
		"{ length(1); int(x); upper(\"a\"); lower($1); index(1, 2); substr(1, 2); substr(1, 2, 3) }", "{ length(upper(lower(int(substr(index(1, 2), 3))))) }", "length(z[1])",
		"a b c d e f g h", "a[1] b[1] c[1] d[1] e[1] f[1] g[1] h[1]", "a b c d e f g h i[1] j[1] k[1] l[1] m[1] n[1] o[1] p[1]", "{ x; X; z[x]; Z[X] }",
		"x ~ /\\// { }", "x ~ /[\\/]/ { }", "x ~ /a\\.b/ { }",
	} {
		checkSource(t, src, impl.CkDone)
	}
	checkCode(t, nil, impl.CkDone)
	checkCode(t, []impl.Rule{}, impl.CkDone)
}

// TestCheckEachCode: programs that have one fault alone.
func TestCheckEachCode(t *testing.T) {
	for want, list := range [][]string{
		impl.CkBegin: {
			"{ } BEGIN { }", "BEGIN { } BEGIN { }", "BEGIN { } { } BEGIN { x = 1 }", "{ } BEGIN { } { }", "/a/ BEGIN { }", "x { } BEGIN { }",
			"BEGIN { $1 }", "BEGIN { print $x }", "BEGIN { NR }", "BEGIN { x = NF }", "BEGIN { next }", "BEGIN { if (0) { next } }", "BEGIN { while (x) { { next } } }", "BEGIN { if (x) { } else { y; next } }", "BEGIN { z[NR] = 1 }", "BEGIN { delete z[NF] }", "BEGIN { $1 ~ /a/ }",
			"BEGIN { /a/ }", "BEGIN { print (/a/) }", "BEGIN { x = /a/ }", "BEGIN { if (/a/) { } }", "BEGIN { /a/ ~ /b/ }", "BEGIN { !/a/ }", "BEGIN { length(/a/) }", "BEGIN { z[/a/] }", "BEGIN { delete z[/a/] }", "BEGIN { /a/ (/b/) }", "BEGIN { x ~ /a/; /b/ }", "BEGIN { x + /a/ }", "BEGIN { print x, /a/ }",
		},
		impl.CkNames: {"a b c d e f g h i", "{ a = b + c + d + e + f + g + h + i }", "a[1] b[1] c[1] d[1] e[1] f[1] g[1] h[1] i[1]", "BEGIN { a; b; c } d { e } f { g } h { i }", "{ delete a[1]; delete b[1]; delete c[1]; delete d[1]; e[1]; f[1]; g[1]; h[1]; i[1] }", "a b c d e f g h i { j k l m n o p q r }"},
		impl.CkKind:  {"a a[1]", "a[1] a", "a[a]", "{ a[1] = a }", "{ a; delete a[1] }", "{ delete a[1] } a", "a { } b { } { a[1] }", "BEGIN { a } { delete a[b] }", "a[1] { print b, c[a] }", "b a[b[1]]"},
		impl.CkArgs: {
			"length()", "int()", "upper()", "lower()", "index()", "substr()", "length(1, 2)", "int(1, 2)", "upper(1, 2)", "lower(1, 2)", "index(1)", "index(1, 2, 3)", "substr(1)", "substr(1, 2, 3, 4)",
			"{ x = length(int()) }", "BEGIN { upper() }", "{ print 1, z[lower(1, 2)] }", "length(1) index(1)", "{ delete z[substr(1)] }", "x { while (index(1)) { } }",
		},
		impl.CkRex: {
			"/(/", "/a(/", "/)/", "/*/", "/[/ { }", "$1 ~ /a(/", "BEGIN { x ~ /(/ }", "{ print (/a/), /(/ }", "x { if (y) { } else { z[/(/] } }",
			"x ~ y", "x ~ \"a\"", "x ~ 1", "x !~ y", "x ~ $1", "x ~ NR", "x ~ z[1]", "x ~ (y ~ /a/)", "x ~ -/a/", "x ~ /a/ (/b/)", "BEGIN { x ~ y }", "/a/ ~ x", "{ length(x ~ upper(y)) }", "x ~ /a/ ~ y",
		},
	} {
		for _, src := range list {
			checkSource(t, src, want)
			if !strings.Contains(src, "BEGIN") {
				checkSource(t, "BEGIN { } "+src+" { } { }", want)
				checkSource(t, "{ } "+src, want)
			} else if strings.HasPrefix(src, "BEGIN") {
				checkSource(t, src+" { } /a/", want)
			}
		}
	}
}

// named are so many statements, each with a name of its own, from first on.
func named(first rune, count int, ahead string, behind string) string {
	text := ""
	for i := range count {
		text += ahead + string(first+rune(i)) + behind + "; "
	}
	return text
}

func TestCheckNamesLimit(t *testing.T) {
	const most = impl.MaxNames
	for vars := 0; vars <= most+2; vars++ {
		for count := 0; count <= most+2; count++ {
			want := impl.CkDone
			if vars > most || count > most {
				want = impl.CkNames
			}
			first := named('a', vars, "", "")
			cells, dropped := named('A', count, "", "[1]"), named('A', count, "delete ", "[1]")
			for _, more := range []string{cells, dropped, cells + dropped, dropped + cells + cells} {
				checkSource(t, "{ "+first+more+"}", want)
				checkSource(t, "{ "+more+first+first+"}", want)
				checkSource(t, "BEGIN { "+more+"} { "+first+"} { "+more+"}", want)
			}
		}
	}
	// One of both is none too many, as long as neither kind has too many.
	for count := 1; count <= most+1; count++ {
		want := impl.CkKind
		if count > most {
			want = impl.CkNames
		}
		checkSource(t, "{ "+named('a', count, "", "")+named('a', 1, "", "[1]")+"}", want)
		checkSource(t, "{ "+named('a', 1, "", "")+named('a', count, "", "[1]")+"}", want)
		checkSource(t, "{ "+named('a', count, "", "")+named('a', count, "", "[1]")+"}", want)
		checkSource(t, "{ "+named('a', count, "", "")+named('a', 1, "delete ", "[1]")+"}", want)
	}
	// Half of a kind as cells, half as what is dropped.
	checkSource(t, "{ a[1]; b[1]; c[1]; d[1]; delete e[1]; delete f[1]; delete g[1]; delete h[1] }", impl.CkDone)
	checkSource(t, "{ a[1]; b[1]; c[1]; d[1]; delete e[1]; delete f[1]; delete g[1]; delete h[1]; delete i[1] }", impl.CkNames)
}

func TestCheckBeginPlaces(t *testing.T) {
	for count := 1; count <= 5; count++ {
		for begins := range 1 << count {
			var list []impl.Rule
			for i := range count {
				r := []impl.Rule{allRule(), someRule(ndVar("x"))}[i%2]
				if begins>>i&1 == 1 {
					r = beginRule()
				}
				list = append(list, r)
			}
			want := impl.CkDone
			if begins > 1 {
				want = impl.CkBegin
			}
			checkCode(t, list, want)
		}
	}
}

// TestCheckBeginDeep: what may not be in a BEGIN is found wherever it stands, and
// in every other rule it is no such fault.
func TestCheckBeginDeep(t *testing.T) {
	one1, next, print1 := ndNum(one), ndOf(impl.NdNext), ndOf(impl.NdPrint)
	only := func(statement impl.Node) {
		t.Helper()
		checkCode(t, []impl.Rule{beginRule(statement)}, impl.CkBegin)
		checkCode(t, []impl.Rule{beginRule(print1, statement, print1), allRule()}, impl.CkBegin)
		other := []impl.Rule{beginRule(print1), allRule(statement), someRule(one1, statement)}
		if got := impl.Check(other); got == impl.CkBegin || got == impl.CkTidy {
			t.Errorf("Check of %.300s = %d", shownRules(other), got)
		}
	}
	for _, n := range []impl.Node{ndOf(impl.NdField, one1), ndOf(impl.NdNr), ndOf(impl.NdNf)} {
		for _, r := range placesOfE(n) {
			only(ndBlock(ndOf(impl.NdDo, n), r.Body))
			if r.Kind == impl.RlAll {
				only(r.Body)
			}
		}
		for _, way := range wraps() {
			for _, deep := range []int{2, 3, impl.MaxTree - 2} {
				only(ndOf(impl.NdDo, wrapped(n, deep, way, wraps()["minus"])))
				only(ndOf(impl.NdPrint, one1, wrapped(n, deep, way, wraps()["not"])))
			}
		}
		for _, way := range statementWraps() {
			only(way(way(ndOf(impl.NdDo, n))))
			only(way(way(ndNamed(impl.NdDrop, "z", n))))
		}
	}
	for _, way := range statementWraps() {
		only(wrapped(next, impl.MaxTree-1, way, statementWraps()["block"]))
	}
}

// TestCheckBeginRex: as the second kid of an NdFits a pattern may stand in a
// BEGIN, and nowhere else.
func TestCheckBeginRex(t *testing.T) {
	x, rex := ndVar("v"), ndRex("a")
	checkCode(t, []impl.Rule{beginRule(ndOf(impl.NdDo, twoOf(impl.NdFits, x, rex)))}, impl.CkDone)
	checkCode(t, []impl.Rule{beginRule(ndOf(impl.NdDo, twoOf(impl.NdFits, rex, x)))}, impl.CkBegin)
	checkCode(t, []impl.Rule{beginRule(ndOf(impl.NdDo, twoOf(impl.NdFits, rex, rex)))}, impl.CkBegin)
	for _, n := range tidyNodes() {
		for i := range n.Kids {
			if n.Op == impl.NdSet || n.Op == impl.NdPlus {
				n.Kids[0] = x
				i = 1
			}
			if isEOp(n.Kids[i].Op) && n.Op != impl.NdField {
				n := plainNode(n)
				n.Kids[i] = rex
				want := impl.CkBegin
				if n.Op == impl.NdFits && i == 1 {
					want = impl.CkDone
				}
				r := ruleWith(n)
				statements := r.Body.Kids
				if r.Kind == impl.RlSome {
					statements = []impl.Node{ndOf(impl.NdDo, r.Pat)}
				}
				list := []impl.Rule{beginRule(statements...)}
				if vars, cells := impl.Names(list); len(vars) > 0 && len(cells) > 0 {
					t.Errorf("%s has names of both kinds", shownRules(list))
				}
				checkCode(t, list, want)
			}
		}
	}
	// What fits may stand anywhere, and what is within it counts still.
	fits := twoOf(impl.NdFits, x, rex)
	for what, way := range wraps() {
		if what == "last" || what == "cell" || what == "field" || what == fmt.Sprint("right ", impl.NdFits) {
			continue
		}
		checkCode(t, []impl.Rule{beginRule(ndOf(impl.NdPrint, way(fits)))}, map[bool]int{true: impl.CkRex, false: impl.CkDone}[what == fmt.Sprint("left ", impl.NdFits)])
		checkCode(t, []impl.Rule{beginRule(ndOf(impl.NdPrint, way(twoOf(impl.NdFits, twoOf(impl.NdCat, x, rex), rex))))}, impl.CkBegin)
	}
	// A list that is shared by what fits and by what does not.
	kids := []impl.Node{x, rex}
	checkCode(t, []impl.Rule{beginRule(ndOf(impl.NdDo, impl.Node{Op: impl.NdFits, Kids: kids}), ndOf(impl.NdDo, impl.Node{Op: impl.NdAdd, Kids: kids}))}, impl.CkBegin)
	checkCode(t, []impl.Rule{beginRule(ndOf(impl.NdDo, impl.Node{Op: impl.NdAdd, Kids: kids}), ndOf(impl.NdDo, impl.Node{Op: impl.NdFits, Kids: kids}))}, impl.CkBegin)
	checkCode(t, []impl.Rule{beginRule(ndOf(impl.NdDo, impl.Node{Op: impl.NdFits, Kids: kids}), ndOf(impl.NdPrint, impl.Node{Op: impl.NdFits, Kids: kids}))}, impl.CkDone)
	checkCode(t, []impl.Rule{beginRule(), allRule(ndOf(impl.NdDo, impl.Node{Op: impl.NdFits, Kids: kids}), ndOf(impl.NdDo, impl.Node{Op: impl.NdAdd, Kids: kids}))}, impl.CkDone)
}

func TestCheckCalls(t *testing.T) {
	most := map[string][2]int{"length": {1, 1}, "int": {1, 1}, "upper": {1, 1}, "lower": {1, 1}, "index": {2, 2}, "substr": {2, 3}}
	for call, range2 := range most {
		for _, count := range []int{0, 1, 2, 3, 4, 5, 100} {
			n := ndNamed(impl.NdCall, call, slices.Repeat([]impl.Node{ndVar("v")}, count)...)
			want := impl.CkArgs
			if count >= range2[0] && count <= range2[1] {
				want = impl.CkDone
			}
			checkCode(t, []impl.Rule{doRule(n)}, want)
			checkCode(t, []impl.Rule{someRule(n)}, want)
			checkCode(t, []impl.Rule{beginRule(ndOf(impl.NdPrint, ndNum(one), n))}, want)
			checkCode(t, []impl.Rule{allRule(), someRule(ndVar("v"), ndOf(impl.NdWhile, ndNum(0), ndBlock(ndNamed(impl.NdDrop, "z", n))))}, want)
			for other := range most {
				checkCode(t, []impl.Rule{doRule(ndNamed(impl.NdCall, other, slices.Repeat([]impl.Node{n}, most[other][1])...))}, want)
			}
		}
	}
}

func TestCheckRex(t *testing.T) {
	fits := func(n impl.Node) impl.Rule { return doRule(twoOf(impl.NdFits, ndVar("v"), n)) }
	check := func(s string) {
		t.Helper()
		want := impl.CkRex
		if _, ok := impl.RexParse(s); ok {
			want = impl.CkDone
		}
		n := ndRex(s)
		checkCode(t, []impl.Rule{fits(n)}, want)
		checkCode(t, []impl.Rule{someRule(n)}, want)
		checkCode(t, []impl.Rule{allRule(), doRule(ndOf(impl.NdMinus, n)), allRule()}, want)
		checkCode(t, []impl.Rule{beginRule(ndOf(impl.NdIf, twoOf(impl.NdFits, ndNum(0), n), ndBlock()))}, want)
	}
	eachText("a(|)*[]^", 4, check)
	for _, size := range []int{impl.MaxRex - 1, impl.MaxRex, impl.MaxRex + 1, 200} {
		check(strings.Repeat("a", size))
	}
	for _, deep := range []int{impl.MaxDeep - 2, impl.MaxDeep - 1, impl.MaxDeep, impl.MaxDeep + 1} {
		check(strings.Repeat("(", deep) + "a*" + strings.Repeat("b)", deep))
	}
	// Whatever else stands behind: a pattern within it does not help.
	for _, n := range tidyNodes() {
		if isEOp(n.Op) && n.Op != impl.NdRex && n.Op != impl.NdCall && n.Op != impl.NdCell {
			checkCode(t, []impl.Rule{fits(n)}, impl.CkRex)
		}
	}
	for _, n := range []impl.Node{ndText("a"), ndText(""), ndText("/a/"), ndNamed(impl.NdCall, "lower", ndRex("a")), ndNamed(impl.NdCell, "z", ndRex("a")), ndOf(impl.NdNot, ndRex("a")), twoOf(impl.NdFits, ndVar("v"), ndRex("a")), twoOf(impl.NdCat, ndRex("a"), ndRex("b"))} {
		checkCode(t, []impl.Rule{fits(n)}, impl.CkRex)
	}
}
