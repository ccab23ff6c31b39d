package tests

import (
	"fmt"
	"math"
	"reflect"
	"slices"
	"strings"
	"testing"

	"loop.example/g00289/impl"
)

// textsOfOps are the texts of places, with `, ` between.
func textsOfOps(list []impl.Op) string {
	var texts []string
	for _, o := range list {
		texts = append(texts, textOfOp(o))
	}
	return strings.Join(texts, ", ")
}

func shownProg(p impl.Prog) string {
	return fmt.Sprintf("vars %q, lists %q\nstart %.1500s\nmain %.1500s", p.Vars, p.Cells, textsOfOps(p.Start), textsOfOps(p.Main))
}

func sameProg(a impl.Prog, b impl.Prog) bool {
	return slices.Equal(a.Vars, b.Vars) && slices.Equal(a.Cells, b.Cells) && slices.Equal(a.Start, b.Start) && slices.Equal(a.Main, b.Main)
}

func checkProg(t *testing.T, p impl.Prog, want bool) {
	t.Helper()
	if got := impl.ProgOk(p); got != want {
		t.Errorf("ProgOk is %v of %s", got, shownProg(p))
	}
}

// compiled is a program that may run, by its rules; it is promise 14.
func compiled(t *testing.T, list []impl.Rule) impl.Prog {
	t.Helper()
	p, code := impl.Compile(list)
	if code != impl.CkDone {
		t.Fatalf("Compile is %d of %.500s", code, impl.Write(list))
	}
	checkProg(t, p, true)
	vars, cells := impl.Names(list)
	if !slices.Equal(p.Vars, vars) || !slices.Equal(p.Cells, cells) {
		t.Errorf("the names of %.500s: %s", impl.Write(list), shownProg(p))
	}
	return p
}

// checkNoProg is of rules of which there is no program.
func checkNoProg(t *testing.T, list []impl.Rule, want int) {
	t.Helper()
	if p, code := impl.Compile(list); code != want || !reflect.ValueOf(p).IsZero() {
		t.Errorf("Compile is %d, want %d; %s", code, want, shownProg(p))
	}
}

func built(t *testing.T, src string) impl.Prog {
	t.Helper()
	p, code := impl.Build(src)
	if code != impl.CkDone {
		t.Fatalf("Build is %d of %.500s", code, src)
	}
	if of := compiled(t, rulesFrom(t, src)); !sameProg(p, of) {
		t.Errorf("%.500s\nis built as %s\ncompiled as %s", src, shownProg(p), shownProg(of))
	}
	return p
}

func checkNotBuilt(t *testing.T, src string, want int) {
	t.Helper()
	if p, code := impl.Build(src); code != want || !reflect.ValueOf(p).IsZero() {
		t.Errorf("Build(%.100q) is %d, want %d; %s", src, code, want, shownProg(p))
	}
}

func checkCompiled(t *testing.T, src string, start string, main string) {
	t.Helper()
	p := built(t, src)
	if got := textsOfOps(p.Start); got != start {
		t.Errorf("start of %s\nis   %s\nwant %s", src, got, start)
	}
	if got := textsOfOps(p.Main); got != main {
		t.Errorf("main of %s\nis   %s\nwant %s", src, got, main)
	}
	// What they do is chapter 15's: the same as their trees.
	checkLinesAsTrees(t, rulesFrom(t, src), []string{"", "a b", "1 0 2.50", "0"}, map[int]int{})
}

func checkMain(t *testing.T, src string, main string) {
	t.Helper()
	checkCompiled(t, src, "next", main)
}

// checkBoth is of statements that may stand in BEGIN too.
func checkBoth(t *testing.T, statements string, places string) {
	t.Helper()
	checkCompiled(t, "{ "+statements+" }", "next", places)
	checkCompiled(t, "BEGIN { "+statements+" }", places, "next")
	checkCompiled(t, "BEGIN { "+statements+" } { "+statements+" }", places, places)
}

func TestCompileNothing(t *testing.T) {
	for _, src := range []string{"", " ", "# nothing", "BEGIN { }", "BEGIN { ; {} }", "{ }", "{ {} {{}} ; }", "BEGIN {} {} {{}}"} {
		checkMain(t, src, "next")
	}
	for _, list := range [][]impl.Rule{nil, {}} {
		p := compiled(t, list)
		if len(p.Vars)+len(p.Cells) != 0 || len(p.Start) != 1 || p.Start[0] != opN(impl.OcNext, 0) || len(p.Main) != 1 || p.Main[0] != opN(impl.OcNext, 0) {
			t.Errorf("no rules: %s", shownProg(p))
		}
	}
}

func TestCompileRules(t *testing.T) {
	checkCompiled(t, "BEGIN { a = 2; } $1 && b { print a, c[$2]; }", "num 2, setvar 0, pop, next",
		"num 1, field, zero 6, var 1, bool, jump 7, num 0, zero 15, var 0, show 0, num 2, field, cell 0, show 1, endl, next")
	checkMain(t, "{ x; }", "var 0, pop, next")
	checkMain(t, "{ x; } { y; }", "var 0, pop, var 1, pop, next")
	checkMain(t, "x { y; }", "var 0, zero 4, var 1, pop, next")
	checkMain(t, "x", "var 0, zero 6, num 0, field, show 0, endl, next")
	// Where the block is empty, what is asked leads behind it all the same.
	checkMain(t, "x { }", "var 0, zero 2, next")
	checkMain(t, "x { } y { }", "var 0, zero 2, var 1, zero 4, next")
	checkMain(t, "x { y; } { y; } z { next; } /a/", "var 0, zero 4, var 1, pop, var 1, pop, var 2, zero 9, next, line <a>, zero 15, num 0, field, show 0, endl, next")
	checkCompiled(t, "BEGIN { x; } x { x; } { }", "var 0, pop, next", "var 0, zero 4, var 0, pop, next")
	// A jump of BEGIN and one of a line count from their own beginnings.
	checkCompiled(t, "BEGIN { if (x) { y; } } { if (x) { y; } }", "var 0, zero 4, var 1, pop, next", "var 0, zero 4, var 1, pop, next")
	checkCompiled(t, "BEGIN { while (x) { } } { while (x) { } }", "var 0, zero 3, jump 0, next", "var 0, zero 3, jump 0, next")
}

func TestCompileLeaves(t *testing.T) {
	checkBoth(t, "0;", "num 0, pop, next")
	checkBoth(t, "1;", "num 1, pop, next")
	checkBoth(t, "2.5;", "num 2.5, pop, next")
	checkBoth(t, "9000000;", "num 9000000, pop, next")
	checkBoth(t, "0.000001;", "num 0.000001, pop, next")
	checkBoth(t, `"";`, "text <>, pop, next")
	checkBoth(t, `"a \"b\" (";`, `text <a "b" (>, pop, next`)
	checkBoth(t, quoted("x", 301)+";", "text <"+strings.Repeat("x", 301)+">, pop, next")
	checkBoth(t, "x;", "var 0, pop, next")
	checkBoth(t, "b; c; a; b;", "var 1, pop, var 2, pop, var 0, pop, var 1, pop, next")
	checkBoth(t, "B[1]; A[2]; a;", "num 1, cell 1, pop, num 2, cell 0, pop, var 0, pop, next")
	checkBoth(t, "b[1]; a;", "num 1, cell 0, pop, var 0, pop, next")
	checkBoth(t, "b[b[x]];", "var 0, cell 0, cell 0, pop, next")
	checkMain(t, "{ $0; }", "num 0, field, pop, next")
	checkMain(t, "{ $$x; }", "var 0, field, field, pop, next")
	checkMain(t, "{ NR; NF; }", "nr, pop, nf, pop, next")
	checkMain(t, "{ $NF; }", "nf, field, pop, next")
	checkMain(t, "{ /a(b)/; }", "line <a(b)>, pop, next")
	checkMain(t, "//", "line <>, zero 6, num 0, field, show 0, endl, next")
}

func TestCompilePairs(t *testing.T) {
	for sign, name := range map[string]string{
		"+": "add", "-": "sub", "*": "mul", "/": "div", "%": "mod", "": "cat",
		"<": "less", "<=": "most", ">": "more", ">=": "least", "==": "same", "!=": "other",
	} {
		checkBoth(t, "x "+sign+" y;", "var 0, var 1, "+name+", pop, next")
		checkBoth(t, "(z "+sign+" y) "+sign+" (2 "+sign+" x);", "var 2, var 1, "+name+", num 2, var 0, "+name+", "+name+", pop, next")
	}
	checkBoth(t, "-x;", "var 0, minus, pop, next")
	checkBoth(t, "!x;", "var 0, not, pop, next")
	checkBoth(t, "- -!x;", "var 0, not, minus, minus, pop, next")
	checkBoth(t, "1 - 2 - 3 * 4;", "num 1, num 2, sub, num 3, num 4, mul, sub, pop, next")
	checkBoth(t, `x "a" 1;`, "var 0, text <a>, cat, num 1, cat, pop, next")
}

func TestCompileFits(t *testing.T) {
	checkBoth(t, "x ~ /a*/;", "var 0, fits <a*>, pop, next")
	checkBoth(t, "x !~ /a*/;", "var 0, fits <a*>, not, pop, next")
	checkBoth(t, "x ~ //;", "var 0, fits <>, pop, next")
	checkBoth(t, "x ~ /a/ ~ /b/;", "var 0, fits <a>, fits <b>, pop, next")
	checkBoth(t, "x ~ /a/ !~ /b/;", "var 0, fits <a>, fits <b>, not, pop, next")
	checkBoth(t, "(x 1) ~ /[<>]/;", "var 0, num 1, cat, fits <[<>]>, pop, next")
	checkMain(t, "/a/ ~ /b/ { }", "line <a>, fits <b>, zero 3, next")
	checkMain(t, "!(/a/) { }", "line <a>, not, zero 3, next")
}

func TestCompileBothOrOne(t *testing.T) {
	checkBoth(t, "x && y;", "var 0, zero 5, var 1, bool, jump 6, num 0, pop, next")
	checkBoth(t, "x || y;", "var 0, zero 4, num 1, jump 6, var 1, bool, pop, next")
	checkBoth(t, "x && y && z;", "var 0, zero 5, var 1, bool, jump 6, num 0, zero 10, var 2, bool, jump 11, num 0, pop, next")
	checkBoth(t, "x && (y && z);", "var 0, zero 10, var 1, zero 7, var 2, bool, jump 8, num 0, bool, jump 11, num 0, pop, next")
	checkBoth(t, "x || y || z;", "var 0, zero 4, num 1, jump 6, var 1, bool, zero 9, num 1, jump 11, var 2, bool, pop, next")
	checkBoth(t, "x || (y || z);", "var 0, zero 4, num 1, jump 11, var 1, zero 8, num 1, jump 10, var 2, bool, bool, pop, next")
	checkBoth(t, "x && y || z;", "var 0, zero 5, var 1, bool, jump 6, num 0, zero 9, num 1, jump 11, var 2, bool, pop, next")
	checkBoth(t, "x && (y || z);", "var 0, zero 10, var 1, zero 6, num 1, jump 8, var 2, bool, bool, jump 11, num 0, pop, next")
	checkBoth(t, "x || y && z;", "var 0, zero 4, num 1, jump 11, var 1, zero 9, var 2, bool, jump 10, num 0, bool, pop, next")
	checkBoth(t, "(x || y) && z;", "var 0, zero 4, num 1, jump 6, var 1, bool, zero 10, var 2, bool, jump 11, num 0, pop, next")
	checkBoth(t, "!(x && 1) + (y || 2);", "var 0, zero 5, num 1, bool, jump 6, num 0, not, var 1, zero 11, num 1, jump 13, num 2, bool, add, pop, next")
	checkMain(t, "x && y", "var 0, zero 5, var 1, bool, jump 6, num 0, zero 11, num 0, field, show 0, endl, next")
}

func TestCompileSets(t *testing.T) {
	checkBoth(t, "x = 1;", "num 1, setvar 0, pop, next")
	checkBoth(t, "x += 1;", "num 1, plusvar 0, pop, next")
	checkBoth(t, "y[x] = 1;", "var 0, num 1, setcell 0, pop, next")
	checkBoth(t, "y[x] += 1;", "var 0, num 1, pluscell 0, pop, next")
	checkBoth(t, "a = b = c;", "var 2, setvar 1, setvar 0, pop, next")
	checkBoth(t, "a += b += c;", "var 2, plusvar 1, plusvar 0, pop, next")
	checkBoth(t, "A[1] = B[2] += C[3];", "num 1, num 2, num 3, cell 2, pluscell 1, setcell 0, pop, next")
	checkBoth(t, "A[a = 1] = a += 2;", "num 1, setvar 0, num 2, plusvar 0, setcell 0, pop, next")
	checkBoth(t, "A[A[1] += 2] += A[3];", "num 1, num 2, pluscell 0, num 3, cell 0, pluscell 0, pop, next")
	checkBoth(t, "b = a; B[1] = A[a];", "var 0, setvar 1, pop, num 1, var 0, cell 0, setcell 1, pop, next")
	checkBoth(t, "x = x && x;", "var 0, zero 5, var 0, bool, jump 6, num 0, setvar 0, pop, next")
	checkBoth(t, "y[x || 1] = 2;", "var 0, zero 4, num 1, jump 6, num 1, bool, num 2, setcell 0, pop, next")
}

func TestCompileCalls(t *testing.T) {
	for _, call := range strings.Fields(sixCalls) {
		switch call {
		case "index":
			checkBoth(t, "index(x, y);", "var 0, var 1, call 2 <index>, pop, next")
		case "substr":
			checkBoth(t, "substr(x, y);", "var 0, var 1, call 2 <substr>, pop, next")
			checkBoth(t, "substr(x, y, z);", "var 0, var 1, var 2, call 3 <substr>, pop, next")
			checkBoth(t, "substr(x && 1, length(y), 3);", "var 0, zero 5, num 1, bool, jump 6, num 0, var 1, call 1 <length>, num 3, call 3 <substr>, pop, next")
		default:
			checkBoth(t, call+"(x);", "var 0, call 1 <"+call+">, pop, next")
			checkBoth(t, call+"("+call+"(x));", "var 0, call 1 <"+call+">, call 1 <"+call+">, pop, next")
		}
	}
}

func TestCompilePrints(t *testing.T) {
	checkMain(t, "{ print; }", "num 0, field, show 0, endl, next")
	checkMain(t, "{ print $0; }", "num 0, field, show 0, endl, next")
	checkBoth(t, "print 1;", "num 1, show 0, endl, next")
	checkBoth(t, "print 1, 2;", "num 1, show 0, num 2, show 1, endl, next")
	checkBoth(t, `print x, "a" 1, 2, y[3];`, "var 0, show 0, text <a>, num 1, cat, show 1, num 2, show 1, num 3, cell 0, show 1, endl, next")
	checkBoth(t, "print 1 || 2, 3 && 4;", "num 1, zero 4, num 1, jump 6, num 2, bool, show 0, num 3, zero 12, num 4, bool, jump 13, num 0, show 1, endl, next")
	checkMain(t, "{ print; print; }", "num 0, field, show 0, endl, num 0, field, show 0, endl, next")
	// In BEGIN print of nothing tells the empty line.
	checkBoth(t, "print;", "num 0, field, show 0, endl, next")
}

func TestCompileBranches(t *testing.T) {
	checkBoth(t, "if (x) { y; }", "var 0, zero 4, var 1, pop, next")
	checkBoth(t, "if (x) { y; } z;", "var 0, zero 4, var 1, pop, var 2, pop, next")
	checkBoth(t, "if (x) { y; } else { z; }", "var 0, zero 5, var 1, pop, jump 7, var 2, pop, next")
	checkBoth(t, "if (x) { } else { z; }", "var 0, zero 3, jump 5, var 1, pop, next")
	checkBoth(t, "if (x) { y; } else { }", "var 0, zero 5, var 1, pop, jump 5, next")
	checkBoth(t, "if (x) { } else { }", "var 0, zero 3, jump 3, next")
	checkBoth(t, "if (x) { }", "var 0, zero 2, next")
	checkBoth(t, "if (x) { } x;", "var 0, zero 2, var 0, pop, next")
	checkBoth(t, "if (x) { {} } else { {{}} } x;", "var 0, zero 3, jump 3, var 0, pop, next")
	checkBoth(t, "if (x) { if (y) { 1; } } else { if (z) { 2; } else { 3; } }", "var 0, zero 7, var 1, zero 6, num 1, pop, jump 14, var 2, zero 12, num 2, pop, jump 14, num 3, pop, next")
	checkBoth(t, "if (x && y) { 1; }", "var 0, zero 5, var 1, bool, jump 6, num 0, zero 9, num 1, pop, next")
}

func TestCompileLoops(t *testing.T) {
	checkBoth(t, "while (x) { y; }", "var 0, zero 5, var 1, pop, jump 0, next")
	checkBoth(t, "while (x) { }", "var 0, zero 3, jump 0, next")
	checkBoth(t, "while (x) { } y;", "var 0, zero 3, jump 0, var 1, pop, next")
	checkBoth(t, "y; while (x) { y; } y;", "var 1, pop, var 0, zero 7, var 1, pop, jump 2, var 1, pop, next")
	checkBoth(t, "while (x) { while (y) { z; } }", "var 0, zero 8, var 1, zero 7, var 2, pop, jump 2, jump 0, next")
	checkBoth(t, "while (x || y) { z; }", "var 0, zero 4, num 1, jump 6, var 1, bool, zero 10, var 2, pop, jump 0, next")
	checkBoth(t, "while ((n += 1) < 3) { if (n) { print n; } else { x; } }",
		"num 1, plusvar 0, num 3, less, zero 14, var 0, zero 11, var 0, show 0, endl, jump 13, var 1, pop, jump 0, next")
}

func TestCompileOthers(t *testing.T) {
	checkMain(t, "{ next; }", "next, next")
	checkMain(t, "{ next; next; x; }", "next, next, var 0, pop, next")
	checkMain(t, "x { next; } { y; }", "var 0, zero 3, next, var 1, pop, next")
	checkBoth(t, "delete A[x];", "var 0, drop 0, next")
	checkBoth(t, "B[1]; delete A[B[2]]; delete C[x && y];", "num 1, cell 1, pop, num 2, cell 1, drop 0, var 0, zero 11, var 1, bool, jump 12, num 0, drop 2, next")
	checkBoth(t, "{ x; } { { y; } x; }", "var 0, pop, var 1, pop, var 0, pop, next")
	checkBoth(t, "{ } x; { }", "var 0, pop, next")
	checkBoth(t, "{ while (x) { { y; } } }", "var 0, zero 5, var 1, pop, jump 0, next")
}

// TestCompileNames: vars and lists are counted apart, each in the order of their
// names, wherever they stand.
func TestCompileNames(t *testing.T) {
	p := built(t, "BEGIN { m = 1; Z[b] = 2; } x { y[c] += 1; } { delete k[1]; delete Z[a]; }")
	if got := fmt.Sprint(p.Vars, p.Cells); got != "[a b c m x] [Z k y]" {
		t.Error(got)
	}
	if got := textsOfOps(p.Start) + "; " + textsOfOps(p.Main); got != "num 1, setvar 3, pop, var 1, num 2, setcell 0, pop, next; var 4, zero 6, var 2, num 1, pluscell 2, pop, num 1, drop 1, var 0, drop 0, next" {
		t.Error(got)
	}
	checkMain(t, "{ ab; a; B; b; aB; }", "var 3, pop, var 1, pop, var 0, pop, var 4, pop, var 2, pop, next")
	checkMain(t, "{ iff; abcdefgh; Print; }", "var 2, pop, var 1, pop, var 0, pop, next")
	// A name of what is only set is one too.
	checkMain(t, "{ b = 1; a = 2; }", "num 1, setvar 1, pop, num 2, setvar 0, pop, next")
}

func TestCompileNamesLimit(t *testing.T) {
	most := "{ " + named('a', 8, "", ";") + named('A', 8, "", "[1];") + " }"
	p := built(t, most)
	if len(p.Vars) != 8 || len(p.Cells) != 8 || p.Vars[7] != "h" || p.Cells[7] != "H" {
		t.Errorf("most names: %s", shownProg(p))
	}
	checkNotBuilt(t, "{ "+named('a', 9, "", ";")+" }", impl.CkNames)
	checkNotBuilt(t, "{ "+named('A', 9, "", "[1];")+" }", impl.CkNames)
	checkNotBuilt(t, "{ "+named('A', 9, "delete ", "[1];")+" }", impl.CkNames)
	checkNotBuilt(t, "BEGIN { i; } "+most, impl.CkNames)
	checkNotBuilt(t, "BEGIN { I[1]; } "+most, impl.CkNames)
}

// TestCompilePlacesLimit: of Start and of Main, at the limit and one above it.
func TestCompilePlacesLimit(t *testing.T) {
	odd := strings.Repeat("x;", 748) + "print x;"
	even := strings.Repeat("x;", 748) + "if (x) {} if (x) {}"
	for _, c := range []struct {
		src   string
		count int
	}{{odd, 1499}, {even, 1500}} {
		for _, src := range []string{"{" + c.src + "}", "BEGIN{" + c.src + "}"} {
			if c.count == 1500 {
				checkNotBuilt(t, src, impl.CkNames)
				checkNoProg(t, rulesFrom(t, src), impl.CkNames)
				checkNoProg(t, append(rulesFrom(t, src), allRule(ndOf(impl.NdNext))), impl.CkNames)
				continue
			}
			p := built(t, src)
			if max(len(p.Start), len(p.Main)) != impl.MaxOps || min(len(p.Start), len(p.Main)) != 1 {
				t.Errorf("%d places, %d places", len(p.Start), len(p.Main))
			}
		}
	}
	start, main := rulesFrom(t, "BEGIN{"+odd+"}"), rulesFrom(t, "{"+odd+"}")
	p := compiled(t, append(start, main...))
	if len(p.Start) != impl.MaxOps || len(p.Main) != impl.MaxOps {
		t.Errorf("both: %d places, %d places", len(p.Start), len(p.Main))
	}
	checkNoProg(t, append(start, rulesFrom(t, "{"+even+"}")...), impl.CkNames)
	checkNoProg(t, append(rulesFrom(t, "BEGIN{"+even+"}"), main...), impl.CkNames)
	checkNoProg(t, append(slices.Clone(main), allRule(ndOf(impl.NdNext))), impl.CkNames)
	compiled(t, append(slices.Clone(main), allRule(ndBlock(ndBlock()))))
	// What is refused by Check is refused for that, however long it is.
	for code, rules := range faults() {
		long := append(rulesFrom(t, "BEGIN{"+even+"}"), rulesFrom(t, "{"+even+"}")...)
		checkNoProg(t, append(long, rules[0]), code)
	}
}

// TestCompileFarJumps: over as much as there may be.
func TestCompileFarJumps(t *testing.T) {
	fill := slices.Repeat([]impl.Node{ndOf(impl.NdNext)}, impl.MaxOps)
	x := ndVar("x")
	p := compiled(t, []impl.Rule{someRule(x, fill[:1497]...)})
	if p.Main[1] != opN(impl.OcZero, 1499) || len(p.Main) != 1500 {
		t.Errorf("over a rule: %v", p.Main[1])
	}
	p = compiled(t, []impl.Rule{allRule(ndOf(impl.NdWhile, x, ndBlock(fill[:1496]...)))})
	if p.Main[1] != opN(impl.OcZero, 1499) || p.Main[1498] != opN(impl.OcJump, 0) {
		t.Errorf("over a loop: %v, %v", p.Main[1], p.Main[1498])
	}
	p = compiled(t, []impl.Rule{allRule(ndOf(impl.NdIf, x, ndBlock(fill[:700]...), ndBlock(fill[:796]...)))})
	if p.Main[1] != opN(impl.OcZero, 703) || p.Main[702] != opN(impl.OcJump, 1499) {
		t.Errorf("over a choice: %v, %v", p.Main[1], p.Main[702])
	}
	for _, n := range []impl.Node{ndOf(impl.NdWhile, x, ndBlock(fill[:1497]...)), ndOf(impl.NdIf, x, ndBlock(fill[:701]...), ndBlock(fill[:796]...)), ndOf(impl.NdIf, x, ndBlock(fill[:700]...), ndBlock(fill[:797]...)), ndOf(impl.NdIf, x, ndBlock(fill[:1498]...)), ndOf(impl.NdIf, x, ndBlock(fill...))} {
		checkNoProg(t, []impl.Rule{allRule(n)}, impl.CkNames)
	}
	checkNoProg(t, []impl.Rule{someRule(x, fill[:1498]...)}, impl.CkNames)
}

func TestCompileRefused(t *testing.T) {
	codes := map[int]bool{}
	for code, rules := range faults() {
		codes[code] = true
		for _, r := range rules {
			checkNoProg(t, []impl.Rule{beginRule(), r}, code)
			checkNoProg(t, []impl.Rule{beginRule(), r, allRule(ndOf(impl.NdNext))}, code)
		}
	}
	if len(codes) != 6 {
		t.Errorf("%d codes", len(codes))
	}
	checkNoProg(t, []impl.Rule{{}}, impl.CkTidy)
	cyclic := ndBlock(ndBlock())
	cyclic.Kids[0].Kids = cyclic.Kids
	checkNoProg(t, []impl.Rule{{Kind: impl.RlAll, Body: cyclic}}, impl.CkTidy)
	for src, code := range map[string]int{
		"{ x; } BEGIN { }": impl.CkBegin, "BEGIN { $1; }": impl.CkBegin, "BEGIN { next; }": impl.CkBegin, "BEGIN { print (/a/); }": impl.CkBegin,
		"{ x[x] = 1; }": impl.CkKind, "{ x; delete x[1]; }": impl.CkKind,
		"{ x = int(); }": impl.CkArgs, "{ index(1); }": impl.CkArgs, "substr(1, 2, 3, 4)": impl.CkArgs,
		"/(/": impl.CkRex, "x ~ y": impl.CkRex, "x ~ /*/ { }": impl.CkRex,
	} {
		checkNotBuilt(t, src, code)
		checkNoProg(t, rulesFrom(t, src), code)
	}
}

func TestBuildRefused(t *testing.T) {
	deep := strings.Repeat("(", 3) + "x" + strings.Repeat(" + (x", 20) + strings.Repeat(")", 20) + strings.Repeat(")", 3)
	for _, src := range []string{
		"{", "}", "x = ;", "@", "\x00", "{ x = @ }", "BEGIN", "BEGIN x", "{ print 1,; }", "{ if x {} }", "{ x[1 = 2; }", `"`, `{ "a` + "\n" + `"; }`, "{ 10000000; }", "abcdefghi", "{ 1.1234567; }", "{ if = 1; }", "{ x; } }",
		strings.Repeat(" ", impl.MaxSource+1), strings.Repeat("x ", impl.MaxSource), deep,
	} {
		if _, bad := impl.Parse(src); bad == -1 {
			t.Errorf("%.100q is a program", src)
		}
		checkNotBuilt(t, src, -1)
	}
	// The place 0 is one too.
	if _, bad := impl.Parse(deep); bad != 0 {
		t.Errorf("deep: %d", bad)
	}
	built(t, strings.Repeat(" ", impl.MaxSource))
	built(t, strings.Repeat(" ", impl.MaxSource-1)+"x")
}

// rightProg has two vars, two lists and places of each code.
func rightProg() impl.Prog {
	var all []impl.Op
	for _, c := range rightOps() {
		all = append(all, c.op)
	}
	return impl.Prog{Vars: []string{"a", "b"}, Cells: []string{"A", "B"}, Start: ended(all...), Main: ended(all...)}
}

func TestProgOk(t *testing.T) {
	checkProg(t, impl.Prog{}, false)
	next := ended()
	checkProg(t, impl.Prog{Start: next, Main: next}, true)
	checkProg(t, impl.Prog{Vars: []string{}, Cells: []string{}, Start: next, Main: next}, true)
	checkProg(t, impl.Prog{Main: next}, false)
	checkProg(t, impl.Prog{Start: next}, false)
	checkProg(t, impl.Prog{Start: []impl.Op{}, Main: next}, false)
	checkProg(t, impl.Prog{Start: next, Main: []impl.Op{}}, false)
	checkProg(t, rightProg(), true)
}

// checkNameList holds names against what ProgOk is of them, as vars and as lists.
func checkNameList(t *testing.T, names []string, want bool) {
	t.Helper()
	next := ended()
	checkProg(t, impl.Prog{Vars: names, Start: next, Main: next}, want)
	checkProg(t, impl.Prog{Cells: names, Start: next, Main: next}, want)
	checkProg(t, impl.Prog{Vars: names, Cells: []string{"zzz"}, Start: next, Main: next}, want)
	checkProg(t, impl.Prog{Vars: []string{"zzz"}, Cells: names, Start: next, Main: next}, want)
}

func TestProgOkNames(t *testing.T) {
	for _, names := range [][]string{{"a"}, {"a", "b"}, {"B", "a"}, {"a", "aa", "ab", "b"}, {"A", "AA", "Aa", "a"}, {"abcdefgh"}, {"Print", "begin", "nR", "printx"}, strings.Fields("a b c d e f g h"), strings.Fields("A B C D a b c d")} {
		checkNameList(t, names, true)
	}
	for _, names := range [][]string{{"a", "a"}, {"b", "a"}, {"a", "B"}, {"aa", "a"}, {"a", "c", "b"}, {"a", "b", "b"}, {"a", "b", "a"}, strings.Fields("b a c d e f g h"), strings.Fields("a b c d e f h g"), strings.Fields("a b c d e f g g"), strings.Fields("a b c d e f g h i"), strings.Fields("a b c d e f g h i j k l")} {
		checkNameList(t, names, false)
	}
	for _, wrong := range []string{"", " ", "1", "a1", "1a", "a ", " a", "a_b", "_", "\x00", "a\x00", "\xff", "ä", "a\n", "abcdefghi", "[", "{", "@", "`", strings.Repeat("x", 1000)} {
		checkNameList(t, []string{wrong}, false)
		for _, right := range []string{"B", "m", "z"} {
			names := []string{right, wrong}
			slices.Sort(names)
			checkNameList(t, names, false)
		}
	}
	for _, word := range strings.Fields("BEGIN print if else while next delete NR NF length substr index int upper lower") {
		checkNameList(t, []string{word}, false)
		names := []string{"a", "b", "c", "d", word}
		slices.Sort(names)
		checkNameList(t, names, false)
	}
}

func TestProgOkBoth(t *testing.T) {
	next := ended()
	for _, c := range []struct {
		vars  string
		cells string
		right bool
	}{
		{"a", "b", true}, {"b", "a", true}, {"a", "A", true}, {"a", "aa", true}, {"a b c d e f g h", "A B C D E F G H", true},
		{"a", "a", false}, {"a b", "b", false}, {"b", "a b", false}, {"a c e", "b d e", false}, {"a", "a b c", false}, {"c", "a b c", false}, {"b", "a b c", false}, {"a b c", "A B a", false}, {"a b c", "a b c", false},
		{"a b c d e f g h", "A B C D E F G h", false}, {"a b c d e f g h i", "A", false}, {"a", "A B C D E F G H I", false}, {"a b c d e f g h", "A B C D E F G H I", false},
	} {
		checkProg(t, impl.Prog{Vars: strings.Fields(c.vars), Cells: strings.Fields(c.cells), Start: next, Main: next}, c.right)
	}
}

// TestProgOkPlaces: each place of both lists is held against the names there are.
func TestProgOkPlaces(t *testing.T) {
	spoils := []func(o *impl.Op){
		func(o *impl.Op) { o.Code = 0 }, func(o *impl.Op) { o.Code = 37 }, func(o *impl.Op) { o.Code = -o.Code }, func(o *impl.Op) { o.N = -top - 1 },
		func(o *impl.Op) { o.N = math.MaxInt }, func(o *impl.Op) { *o = opS(impl.OcFits, "(") }, func(o *impl.Op) { *o = opOf(impl.OcCall, 1, "x") }, func(o *impl.Op) { *o = opN(impl.OcShow, 2) },
		func(o *impl.Op) { *o = opN(impl.OcVar, 2) }, func(o *impl.Op) { *o = opN(impl.OcCell, 2) }, func(o *impl.Op) { *o = opN(impl.OcDrop, -1) },
	}
	for i := range rightProg().Main {
		for _, spoil := range spoils {
			p := rightProg()
			o := p.Start[i]
			spoil(&o)
			if rightOp(o, 2, 2, len(p.Start)) {
				continue
			}
			p.Start[i] = o
			checkProg(t, p, false)
			p.Start, p.Main = p.Main, p.Start
			checkProg(t, p, false)
		}
	}
	for _, cut := range []int{0, 1, 5, len(rightProg().Main) - 1} {
		p := rightProg()
		p.Start = p.Start[:cut]
		checkProg(t, p, false)
		p.Start, p.Main = p.Main, p.Start
		checkProg(t, p, false)
	}
	// Vars are counted by Vars, lists by Cells.
	names := []string{"m", "n", "o", "p", "q"}
	for vars := range 4 {
		for lists := range 4 {
			for n := range 5 {
				p := impl.Prog{Vars: names[:vars], Cells: []string{"A", "B", "C"}[:lists], Start: ended(), Main: ended(opN(impl.OcVar, n))}
				checkProg(t, p, n < vars)
				p.Start, p.Main = p.Main, p.Start
				checkProg(t, p, n < vars)
				p.Main = ended(opN(impl.OcPlusCell, n))
				p.Start = ended()
				checkProg(t, p, n < lists)
				p.Start, p.Main = p.Main, p.Start
				checkProg(t, p, n < lists)
			}
		}
	}
	// A jump stays in its own list.
	p := impl.Prog{Start: ended(opN(impl.OcJump, 2)), Main: ended(opN(impl.OcPop, 0), opN(impl.OcPop, 0))}
	checkProg(t, p, false)
	p.Start, p.Main = p.Main, p.Start
	checkProg(t, p, false)
	p.Main[0].N = 1
	checkProg(t, p, true)
	pops := ended(slices.Repeat([]impl.Op{opN(impl.OcPop, 0)}, 1500)...)
	checkProg(t, impl.Prog{Start: pops[1:], Main: pops[1:]}, true)
	checkProg(t, impl.Prog{Start: pops, Main: pops[1:]}, false)
	checkProg(t, impl.Prog{Start: pops[1:], Main: pops}, false)
}
