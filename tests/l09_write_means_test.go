package tests

import (
	"fmt"
	"math"
	"math/rand"
	"slices"
	"strings"
	"testing"

	"loop.example/g00289/impl"
)

// The tests of this file work out by other means what Write and Tidy tell: the
// text of a node is put together from forms, whether it is tidy or not, and it
// is tidy where that text is parsed as it was.

// forms have what is written of an op: 1, 2, 3 stand for its kids, # and @ for N
// and S, a comma for all kids with `, ` between, ^ for all of them by lines.
var forms = map[int]string{
	impl.NdNum: "#", impl.NdVar: "@", impl.NdCell: "@[1]", impl.NdNr: "NR", impl.NdNf: "NF", impl.NdNot: "(!1)", impl.NdMinus: "(-1)", impl.NdSet: "(1 = 2)", impl.NdPlus: "(1 += 2)", impl.NdCall: "@(,)",
	impl.NdAdd: "(1 + 2)", impl.NdSub: "(1 - 2)", impl.NdMul: "(1 * 2)", impl.NdDiv: "(1 / 2)", impl.NdMod: "(1 % 2)", impl.NdCat: "(1 2)", impl.NdFits: "(1 ~ 2)", impl.NdAnd: "(1 && 2)", impl.NdOr: "(1 || 2)",
	impl.NdLess: "(1 < 2)", impl.NdMost: "(1 <= 2)", impl.NdMore: "(1 > 2)", impl.NdLeast: "(1 >= 2)", impl.NdSame: "(1 == 2)", impl.NdOther: "(1 != 2)",
	impl.NdBlock: "{\n^}", impl.NdPrint: "print ,;", impl.NdIf: "if (1) 2 else 3", impl.NdWhile: "while (1) 2", impl.NdNext: "next;", impl.NdDrop: "delete @[1];", impl.NdDo: "1;",
}

// formOf is the form of a node: those of some ops hang on what it has.
func formOf(n impl.Node) string {
	form := forms[n.Op]
	switch {
	case n.Op == impl.NdPrint && len(n.Kids) == 0:
		return "print;"
	case n.Op == impl.NdIf && len(n.Kids) < 3:
		return strings.TrimSuffix(form, " else 3")
	case n.Op == impl.NdField && len(n.Kids) > 0:
		if slices.Contains([]int{impl.NdNum, impl.NdVar, impl.NdField}, n.Kids[0].Op) {
			return "$1"
		}
		return "$(1)"
	}
	return form
}

func textByForms(n impl.Node) string {
	switch n.Op {
	case impl.NdText:
		return `"` + strings.ReplaceAll(strings.ReplaceAll(n.S, `\`, `\\`), `"`, `\"`) + `"`
	case impl.NdRex:
		return "(/" + strings.ReplaceAll(n.S, "/", `\/`) + "/)"
	}
	var kids []string
	for _, kid := range n.Kids {
		kids = append(kids, textByForms(kid))
	}
	text := ""
	for _, b := range formOf(n) {
		switch {
		case b == '#':
			text += shownNum(n.N)
		case b == '@':
			text += n.S
		case b == ',':
			text += strings.Join(kids, ", ")
		case b == '^' && len(kids) > 0:
			text += strings.Join(kids, "\n") + "\n"
		case b >= '1' && b <= '3':
			if i := int(b - '1'); i < len(kids) {
				text += kids[i]
			}
		case b != '^':
			text += string(b)
		}
	}
	return text
}

func rulesByForms(list []impl.Rule) string {
	text := ""
	for _, r := range list {
		switch r.Kind {
		case impl.RlBegin:
			text += "BEGIN "
		case impl.RlSome:
			text += textByForms(r.Pat) + " "
		}
		text += textByForms(r.Body) + "\n"
	}
	return text
}

// checkByForms asks for what the other means tell, and tells whether it is tidy.
// What is too long for a source is left out.
func checkByForms(t *testing.T, list []impl.Rule) bool {
	t.Helper()
	text := rulesByForms(list)
	if len(text) > impl.MaxSource {
		return false
	}
	back, bad := impl.Parse(text)
	tidy := bad == -1 && sameRules(back, list)
	if got := impl.Tidy(list); got != tidy {
		t.Errorf("Tidy of %.300s = %t, want %t", shownRules(list), got, tidy)
	}
	if !tidy {
		text = ""
	}
	if got := impl.Write(list); got != text {
		t.Errorf("Write of %.300s = %.300q, want %.300q", shownRules(list), got, text)
	}
	return tidy
}

// TestTidyEachNode goes through ops with all kids of few kinds, at each place of
// a rule.
func TestTidyEachNode(t *testing.T) {
	nodes := append(tidyNodes(), ndOf(36), ndOf(impl.NdAdd), ndNum(-1), ndVar("print"))
	few := []impl.Node{ndVar("x"), ndNum(one), ndRex("/"), nodes[impl.NdCell], nodes[impl.NdField], ndBlock(), ndOf(impl.NdNext), {}}
	words := []impl.Node{{}, {S: "x"}, {S: "length"}, {S: "if"}, {N: one}, {N: one, S: "x"}}
	lists := [][]impl.Node{nil}
	for _, a := range nodes {
		lists = append(lists, []impl.Node{a})
	}
	for _, a := range few {
		for _, b := range few {
			lists = append(lists, []impl.Node{a, b})
			for _, c := range few {
				lists = append(lists, []impl.Node{a, b, c})
			}
		}
	}
	tidy, untidy := 0, 0
	for op := -1; op <= impl.NdDo+1; op++ {
		for _, word := range words {
			for _, kids := range lists {
				n := impl.Node{Op: op, N: word.N, S: word.S, Kids: kids}
				for _, r := range []impl.Rule{someRule(n), allRule(n), {Kind: impl.RlBegin, Body: n}} {
					if checkByForms(t, []impl.Rule{r}) {
						tidy++
					} else {
						untidy++
					}
				}
			}
		}
	}
	if tidy < 900 || untidy < 100000 {
		t.Errorf("%d tidy, %d untidy", tidy, untidy)
	}
}

// TestTidyEachTwo: each two ops beside each other below each op.
func TestTidyEachTwo(t *testing.T) {
	nodes := tidyNodes()
	for op, n := range nodes {
		for _, a := range nodes {
			for _, b := range nodes {
				n.Kids = []impl.Node{a, b}
				checkByForms(t, []impl.Rule{ruleWith(n)})
				if op == impl.NdIf {
					n.Kids = []impl.Node{ndVar("x"), a, b}
					checkByForms(t, []impl.Rule{ruleWith(n)})
				}
			}
		}
	}
}

func someOf[T any](chance *rand.Rand, list ...T) T { return list[chance.Intn(len(list))] }

// treeByChance is a tidy e or statement, at most so deep.
func treeByChance(chance *rand.Rand, statement bool, room int) impl.Node {
	op := impl.NdNum + chance.Intn(impl.NdCall)
	if statement {
		op = impl.NdBlock + chance.Intn(impl.NdDo-impl.NdBlock+1)
	}
	if room <= 1 {
		op = someOf(chance, impl.NdNum, impl.NdText, impl.NdRex, impl.NdVar, impl.NdNr, impl.NdNf, impl.NdCall)
		if statement {
			op = someOf(chance, impl.NdNext, impl.NdPrint, impl.NdBlock)
		}
	}
	n := tidyNodes()[op]
	switch op {
	case impl.NdNum:
		n.N = someOf(chance, 0, 1, one, 2500000, top, chance.Intn(top))
	case impl.NdText:
		n.S = strings.ReplaceAll(fewBytes(chance, "ab\"\\/ #;}\xff\x00"+allBytes(0, 255), 6), "\n", "n")
	case impl.NdRex:
		n.S = rexOfToken(chance)
	case impl.NdVar, impl.NdCell, impl.NdDrop:
		n.S = someOf(chance, "x", "y", "abcdefgh", "nr", "END")
	case impl.NdCall:
		n.S = someOf(chance, callNames...)
	}
	blocks := op == impl.NdIf || op == impl.NdWhile
	if room > 1 {
		switch op {
		case impl.NdCall, impl.NdPrint, impl.NdBlock:
			n.Kids = make([]impl.Node, chance.Intn(4))
		case impl.NdIf:
			n.Kids = make([]impl.Node, 2+chance.Intn(2))
		}
	}
	for i := range n.Kids {
		n.Kids[i] = treeByChance(chance, op == impl.NdBlock, room-1)
		if blocks && i > 0 {
			n.Kids[i] = blockByChance(chance, room-1)
		}
		if i == 0 && (op == impl.NdSet || op == impl.NdPlus) {
			n.Kids[i] = ndVar("z")
			if room > 2 && chance.Intn(2) == 0 {
				n.Kids[i] = ndNamed(impl.NdCell, "z", treeByChance(chance, false, room-2))
			}
		}
	}
	return n
}

func blockByChance(chance *rand.Rand, room int) impl.Node {
	n := ndBlock()
	for range chance.Intn(3) {
		if room > 1 {
			n.Kids = append(n.Kids, treeByChance(chance, true, room-1))
		}
	}
	return n
}

func rexOfToken(chance *rand.Rand) string {
	s := ""
	for range chance.Intn(5) {
		s += someOf(chance, "a", "/", `\\`, `\a`, `\.`, `"`, "[", "#", "\xff", `\"`)
	}
	return s
}

func rulesByChance(chance *rand.Rand) []impl.Rule {
	var list []impl.Rule
	for range 1 + chance.Intn(3) {
		room := 1 + chance.Intn(6)
		r := impl.Rule{Kind: someOf(chance, impl.RlBegin, impl.RlAll, impl.RlSome), Body: blockByChance(chance, room)}
		if r.Kind == impl.RlSome {
			r.Pat = treeByChance(chance, false, room)
		}
		list = append(list, r)
	}
	return list
}

// everyNode hands on each node of a tree, to be turned.
func everyNode(n *impl.Node, do func(n *impl.Node)) {
	do(n)
	for i := range n.Kids {
		everyNode(&n.Kids[i], do)
	}
}

func cloneRules(list []impl.Rule) []impl.Rule {
	list = slices.Clone(list)
	for i := range list {
		list[i].Pat, list[i].Body = plainNode(list[i].Pat), plainNode(list[i].Body)
	}
	return list
}

// turnNode makes one thing of a node another one.
func turnNode(chance *rand.Rand, n *impl.Node) {
	nodes := tidyNodes()
	at := 0
	if len(n.Kids) > 0 {
		at = chance.Intn(len(n.Kids))
	}
	switch chance.Intn(8) {
	case 0:
		n.Op = chance.Intn(37)
	case 1:
		n.N = someOf(chance, 0, 1, -1, top, top+1, math.MinInt)
	case 2:
		n.S = someOf(chance, "", "x", "if", "NF", "int", "abcdefghi", "a\nb", `\`, `\/`, `a/b`, `\\/`, "a1", "1", `"`)
	case 3:
		n.Kids = append(n.Kids, nodes[chance.Intn(len(nodes))])
	case 4:
		if len(n.Kids) > 0 {
			n.Kids = slices.Delete(n.Kids, at, at+1)
		}
	case 5:
		if len(n.Kids) > 0 {
			n.Kids[0], n.Kids[at] = n.Kids[at], n.Kids[0]
		}
	case 6:
		*n = nodes[chance.Intn(len(nodes))]
	case 7:
		*n = ndOf(someOf(chance, impl.NdField, impl.NdNot, impl.NdDo, impl.NdBlock, impl.NdCat), *n)
	}
}

// turnedRules are others than some, by one node, and now and then by one Kind.
func turnedRules(chance *rand.Rand, list []impl.Rule) []impl.Rule {
	other := cloneRules(list)
	r := &other[chance.Intn(len(other))]
	var nodes []*impl.Node
	everyNode(&r.Body, func(n *impl.Node) { nodes = append(nodes, n) })
	everyNode(&r.Pat, func(n *impl.Node) { nodes = append(nodes, n) })
	turnNode(chance, nodes[chance.Intn(len(nodes))])
	if chance.Intn(10) == 0 {
		r.Kind = chance.Intn(5)
	}
	return other
}

func TestWriteByChance(t *testing.T) {
	chance := rand.New(rand.NewSource(99))
	tidy, untidy := 0, 0
	for range 12000 {
		list := rulesByChance(chance)
		checkWrite(t, list, rulesByForms(list))
		for range 4 {
			if checkByForms(t, turnedRules(chance, list)) {
				tidy++
			} else {
				untidy++
			}
		}
	}
	if tidy < 3000 || untidy < 15000 {
		t.Errorf("%d tidy, %d untidy", tidy, untidy)
	}
}

// TestWriteOfSources: what comes from a source is tidy, whatever gaps, brackets
// and signs it has, and its text has no more to be turned.
func TestWriteOfSources(t *testing.T) {
	g := newGrammar()
	chance := rand.New(rand.NewSource(98))
	right := 0
	for range 4000 {
		list, bad := impl.Parse(joined(chance, g.sentence(chance, nil, "start", 12+chance.Intn(30), 40)))
		if bad == -1 {
			right++
			checkWrite(t, list, rulesByForms(list))
		}
	}
	if right < 2000 {
		t.Errorf("only %d right", right)
	}
}

// wraps put an e into another one: one more is within each other by it.
func wraps() map[string]func(n impl.Node) impl.Node {
	x := ndVar("x")
	list := map[string]func(n impl.Node) impl.Node{
		"cell":  func(n impl.Node) impl.Node { return ndNamed(impl.NdCell, "x", n) },
		"field": func(n impl.Node) impl.Node { return ndOf(impl.NdField, n) },
		"not":   func(n impl.Node) impl.Node { return ndOf(impl.NdNot, n) },
		"minus": func(n impl.Node) impl.Node { return ndOf(impl.NdMinus, n) },
		"set":   func(n impl.Node) impl.Node { return twoOf(impl.NdSet, x, n) },
		"plus":  func(n impl.Node) impl.Node { return twoOf(impl.NdPlus, x, n) },
		"call":  func(n impl.Node) impl.Node { return ndNamed(impl.NdCall, "int", n) },
		"last":  func(n impl.Node) impl.Node { return ndNamed(impl.NdCall, "int", x, ndOf(impl.NdNot, x), n) },
	}
	for op := range signTexts {
		list[fmt.Sprint("left ", op)] = func(n impl.Node) impl.Node { return twoOf(op, n, x) }
		list[fmt.Sprint("right ", op)] = func(n impl.Node) impl.Node { return twoOf(op, x, n) }
	}
	return list
}

// statementWraps likewise with a statement: two more, where it says so.
func statementWraps() map[string]func(n impl.Node) impl.Node {
	x, next := ndVar("x"), ndOf(impl.NdNext)
	return map[string]func(n impl.Node) impl.Node{
		"block":      func(n impl.Node) impl.Node { return ndBlock(n) },
		"last":       func(n impl.Node) impl.Node { return ndBlock(next, n) },
		"first":      func(n impl.Node) impl.Node { return ndBlock(n, ndBlock(), next) },
		"if, two":    func(n impl.Node) impl.Node { return ndOf(impl.NdIf, x, ndBlock(n)) },
		"else, two":  func(n impl.Node) impl.Node { return ndOf(impl.NdIf, x, ndBlock(), ndBlock(n)) },
		"while, two": func(n impl.Node) impl.Node { return ndOf(impl.NdWhile, x, ndBlock(n)) },
	}
}

// wrapped is n in a way, and in fill where that does not come out, until it is
// so deep.
func wrapped(n impl.Node, deep int, way func(n impl.Node) impl.Node, fill func(n impl.Node) impl.Node) impl.Node {
	for deepOf(way(n)) <= deep {
		n = way(n)
	}
	for deepOf(n) < deep {
		n = fill(n)
	}
	return n
}

func checkDepth(t *testing.T, what string, r impl.Rule) {
	t.Helper()
	if max(deepOf(r.Pat), deepOf(r.Body)) > impl.MaxTree {
		checkUntidy(t, what, r)
	} else {
		checkWrite(t, []impl.Rule{r}, rulesByForms([]impl.Rule{r}))
	}
}

func TestTidyDepth(t *testing.T) {
	const most = impl.MaxTree
	minus := wraps()["minus"]
	for what, way := range wraps() {
		for _, deep := range []int{2, most - 1, most, most + 1, most + 2, 40} {
			what := fmt.Sprint(what, " ", deep)
			e := wrapped(ndVar("x"), deep, way, minus)
			checkDepth(t, what, someRule(e))
			checkDepth(t, what, someRule(e, ndOf(impl.NdNext)))
			// Within a statement it is within a block too.
			e = wrapped(ndVar("x"), max(deep-2, 1), way, minus)
			checkDepth(t, what, allRule(ndOf(impl.NdDo, e)))
			checkDepth(t, what, beginRule(ndOf(impl.NdNext), ndOf(impl.NdPrint, ndVar("x"), e)))
			checkDepth(t, what, someRule(ndVar("x"), ndOf(impl.NdIf, e, ndBlock())))
			checkDepth(t, what, someRule(e, ndOf(impl.NdWhile, e, ndBlock())))
			checkDepth(t, what, allRule(ndNamed(impl.NdDrop, "x", e)))
		}
	}
	block := statementWraps()["block"]
	for what, way := range statementWraps() {
		for _, deep := range []int{2, most - 1, most, most + 1, most + 2, 40} {
			for _, leaf := range []impl.Node{ndOf(impl.NdNext), ndOf(impl.NdPrint), ndBlock()} {
				what := fmt.Sprint(what, " ", deep)
				n := wrapped(leaf, deep-1, way, block)
				checkDepth(t, what, allRule(n))
				checkDepth(t, what, beginRule(ndOf(impl.NdNext), n))
				checkDepth(t, what, someRule(ndVar("x"), n))
			}
		}
	}
	// The depth of each counts on its own, and that of neither beside the other.
	deepest := wrapped(ndVar("x"), most, minus, minus)
	deeper := wrapped(ndVar("x"), most+1, minus, minus)
	body := wrapped(ndBlock(), most, block, block)
	checkDepth(t, "both", impl.Rule{Kind: impl.RlSome, Pat: deepest, Body: body})
	checkDepth(t, "Pat", impl.Rule{Kind: impl.RlSome, Pat: deeper, Body: body})
	checkDepth(t, "Body", impl.Rule{Kind: impl.RlSome, Pat: deepest, Body: ndBlock(body)})
}

// TestWriteLength: a text is told however long it is.
func TestWriteLength(t *testing.T) {
	const most = impl.MaxSource
	frame := len(`"" {` + "\n}\n")
	for _, size := range []int{most - 1, most, most + 1, most + 2, 5000, 1000000} {
		list := []impl.Rule{someRule(ndText(strings.Repeat("a", size-frame)))}
		if checkWrite(t, list, rulesByForms(list)); len(impl.Write(list)) != size {
			t.Errorf("Write tells %d bytes, want %d", len(impl.Write(list)), size)
		}
		list[0].Pat = ndRex(strings.Repeat("a", size-frame-2))
		checkWrite(t, list, rulesByForms(list))
		list[0].Pat = ndText(strings.Repeat("a", size-frame) + "\n")
		checkUntidy(t, "a long text", list[0])
	}
	for _, count := range []int{499, 500, 501, 20000} {
		list := slices.Repeat([]impl.Rule{allRule()}, count)
		checkWrite(t, list, strings.Repeat("{\n}\n", count))
		list[count-1].Kind = 0
		if impl.Tidy(list) || impl.Write(list) != "" {
			t.Errorf("the last one of %d is not tidy, but all are", count)
		}
	}
	for _, count := range []int{10, 660, 670, 100000} {
		x := ndVar("x")
		xs := slices.Repeat([]impl.Node{x}, count)
		text := strings.Repeat(", x", count)[2:]
		checkWrite(t, []impl.Rule{someRule(ndNamed(impl.NdCall, "int", xs...))}, "int("+text+") {\n}\n")
		checkWrite(t, []impl.Rule{allRule(ndOf(impl.NdPrint, xs...))}, "{\nprint "+text+";\n}\n")
		checkWrite(t, []impl.Rule{allRule(slices.Repeat([]impl.Node{ndOf(impl.NdDo, x)}, count)...)}, "{\n"+strings.Repeat("x;\n", count)+"}\n")
		xs[count-1].N = 1
		checkUntidy(t, "the last of many", allRule(ndOf(impl.NdPrint, xs...)))
	}
}

// TestTidyShared: lists that are handed to several nodes.
func TestTidyShared(t *testing.T) {
	// The same twice, and again: each is written.
	twice, text := ndBlock(), "{\n}"
	for range impl.MaxTree - 1 {
		twice = ndBlock(twice, twice)
		text = "{\n" + text + "\n" + text + "\n}"
		checkWrite(t, []impl.Rule{{Kind: impl.RlAll, Body: twice}}, text+"\n")
	}
	checkUntidy(t, "the same twice, too deep", allRule(twice))
	// The same list near and far, whole and in part.
	list := []impl.Node{ndVar("x"), ndVar("y")}
	checkWrite(t, []impl.Rule{someRule(impl.Node{Op: impl.NdAdd, Kids: list}, ndOf(impl.NdDo, impl.Node{Op: impl.NdSub, Kids: list}), impl.Node{Op: impl.NdPrint, Kids: list[1:]})}, "(x + y) {\n(x - y);\nprint y;\n}\n")
	checkWrite(t, []impl.Rule{allRule(impl.Node{Op: impl.NdPrint, Kids: list}, impl.Node{Op: impl.NdDo, Kids: list[:1]})}, "{\nprint x, y;\nx;\n}\n")
	checkUntidy(t, "a list for one of its nodes", allRule(impl.Node{Op: impl.NdPrint, Kids: list}, impl.Node{Op: impl.NdDo, Kids: list}))
	list[1].N = 1
	checkUntidy(t, "a list of which the beginning is tidy", allRule(impl.Node{Op: impl.NdDo, Kids: list[:1]}, impl.Node{Op: impl.NdPrint, Kids: list}))
}

// refusedSoon asks without showing what it asks for, as nobody could.
func refusedSoon(t *testing.T, what string, r impl.Rule) {
	t.Helper()
	list := []impl.Rule{r}
	if impl.Tidy(list) {
		t.Errorf("%s: Tidy is true", what)
	} else if text := impl.Write(list); text != "" {
		t.Errorf("%s: Write tells %d bytes", what, len(text))
	}
}

// TestTidySoon: trees with so many ways through them that nobody goes them all.
func TestTidySoon(t *testing.T) {
	wide := func(leaf impl.Node, deep int) impl.Rule {
		for range deep - 2 {
			leaf = ndBlock(slices.Repeat([]impl.Node{leaf}, 100)...)
		}
		return allRule(leaf)
	}
	if !impl.Tidy([]impl.Rule{wide(ndOf(impl.NdNext), impl.MaxTree)}) {
		t.Error("Tidy of many ways is false")
	}
	refusedSoon(t, "many ways, too deep", wide(ndOf(impl.NdNext), impl.MaxTree+1))
	refusedSoon(t, "many ways to what is not tidy", wide(ndOf(impl.NdDo), impl.MaxTree))
	refusedSoon(t, "many ways to nothing", wide(impl.Node{}, impl.MaxTree))
	chain := ndVar("x")
	for range 1000000 {
		chain = ndOf(impl.NdNot, chain)
	}
	refusedSoon(t, "a long chain", someRule(chain))
	refusedSoon(t, "a long chain", allRule(ndOf(impl.NdDo, chain)))
	// What holds itself.
	for _, op := range []int{impl.NdBlock, impl.NdAdd, impl.NdNot, impl.NdCall, impl.NdIf, 0} {
		for size := 1; size <= 4; size++ {
			kids := make([]impl.Node, size)
			for i := range kids {
				kids[i] = impl.Node{Op: op, Kids: kids}
				if op == impl.NdCall {
					kids[i].S = "length"
				}
			}
			what := fmt.Sprintf("what holds itself, op %d, %d kids", op, size)
			refusedSoon(t, what, allRule(kids...))
			refusedSoon(t, what, someRule(kids[0]))
			refusedSoon(t, what, impl.Rule{Kind: impl.RlBegin, Body: kids[0]})
			refusedSoon(t, what, impl.Rule{Kind: impl.RlAll, Pat: kids[0], Body: ndBlock()})
		}
	}
}

// roomy puts room with something in it behind each list of kids.
func roomy(n impl.Node) impl.Node {
	kids := make([]impl.Node, 0, len(n.Kids)+2)
	for _, kid := range n.Kids {
		kids = append(kids, roomy(kid))
	}
	n.Kids = append(kids, impl.Node{Op: 77, S: "room"}, impl.Node{N: 5})[:len(kids)]
	return n
}

func roomyRules(list []impl.Rule) []impl.Rule {
	list = slices.Clone(list)
	for i := range list {
		list[i].Pat, list[i].Body = roomy(list[i].Pat), roomy(list[i].Body)
	}
	return append(list, impl.Rule{Kind: 9}, impl.Rule{Body: ndVar("room")})[:len(list)]
}

func withRoomShown(list []impl.Rule) string {
	var shown strings.Builder
	for _, r := range list[:cap(list)] {
		fmt.Fprint(&shown, r.Kind)
		for _, n := range []impl.Node{r.Pat, r.Body} {
			eachKids(n, func(kids []impl.Node) { fmt.Fprint(&shown, kids[:cap(kids)]) })
		}
	}
	return shown.String()
}

// TestWriteWritesNothing: neither into what is handed in, nor behind it; and
// what is told is the same each time.
func TestWriteWritesNothing(t *testing.T) {
	chance := rand.New(rand.NewSource(97))
	for i := range 300 {
		list := rulesByChance(chance)
		if i%3 == 0 {
			turnNode(chance, &list[len(list)-1].Body)
		}
		list = roomyRules(list)
		before := withRoomShown(list)
		tidy, text := impl.Tidy(list), impl.Write(list)
		if withRoomShown(list) != before {
			t.Errorf("something is written into %s", shownRules(list))
		}
		if impl.Tidy(list) != tidy || impl.Write(list) != text || tidy != (text != "") {
			t.Errorf("another answer of %s the second time", shownRules(list))
		}
	}
}
