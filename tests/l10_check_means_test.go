package tests

import (
	"fmt"
	"math/rand"
	"slices"
	"strings"
	"testing"

	"loop.example/g00289/impl"
)

// The tests of this file work out by other means what Check tells: from the
// tokens of the text, in which each op is to be seen by what is beside it.

// rulesOfTokens parts the tokens of a text by Write: each rule ends with the
// only `}` that is in no other.
func rulesOfTokens(list []impl.Token) [][]impl.Token {
	var rules [][]impl.Token
	depth, from := 0, 0
	for i, token := range list {
		if isSign(token, "{") {
			depth++
		}
		if isSign(token, "}") {
			if depth--; depth == 0 {
				rules = append(rules, list[from:i+1])
				from = i + 1
			}
		}
	}
	return rules
}

// isFitted tells whether the pattern at a place is behind a `~`, in its brackets.
func isFitted(list []impl.Token, at int) bool {
	return at > 1 && isSign(list[at-1], "(") && isSign(list[at-2], "~")
}

func beginByTokens(rules [][]impl.Token) bool {
	for i, list := range rules {
		if !isWord(list[0], "BEGIN") {
			continue
		}
		for at, token := range list {
			if i > 0 || isSign(token, "$") || isWord(token, "NR", "NF", "next") || token.Kind == impl.TkRex && !isFitted(list, at) {
				return true
			}
		}
	}
	return false
}

// namesByTokens are the names ahead of a `[`, and all others.
func namesByTokens(list []impl.Token) (vars []string, cells []string) {
	for i, token := range list {
		if token.Kind != impl.TkName || slices.Contains(keywords, token.Text) {
			continue
		}
		if isSign(list[i+1], "[") {
			cells = append(cells, token.Text)
		} else {
			vars = append(vars, token.Text)
		}
	}
	slices.Sort(vars)
	slices.Sort(cells)
	return slices.Compact(vars), slices.Compact(cells)
}

// argsByTokens counts es between the brackets that are open at list[0].
func argsByTokens(list []impl.Token) int {
	depth, count := 0, 1
	for i, token := range list {
		switch {
		case isSign(token, "(", "["):
			depth++
		case isSign(token, ")", "]"):
			if depth--; depth == 0 {
				if i == 1 {
					return 0
				}
				return count
			}
		case isSign(token, ",") && depth == 1:
			count++
		}
	}
	return -1
}

func callsByTokens(list []impl.Token) bool {
	right := map[string][]int{"length": {1}, "int": {1}, "upper": {1}, "lower": {1}, "index": {2}, "substr": {2, 3}}
	for i, token := range list {
		if token.Kind == impl.TkName && right[token.Text] != nil && !slices.Contains(right[token.Text], argsByTokens(list[i+1:])) {
			return true
		}
	}
	return false
}

func rexByTokens(list []impl.Token) bool {
	for i, token := range list {
		if isSign(token, "~") && !(isSign(list[i+1], "(") && list[i+2].Kind == impl.TkRex) {
			return true
		}
		if _, ok := impl.RexParse(token.Text); token.Kind == impl.TkRex && !ok {
			return true
		}
	}
	return false
}

func codeByTokens(t *testing.T, text string) int {
	t.Helper()
	tokens, bad := impl.Tokens(text)
	if bad != -1 {
		t.Fatalf("no tokens: %.300q", text)
	}
	vars, cells := namesByTokens(tokens)
	both := slices.ContainsFunc(vars, func(name string) bool { return slices.Contains(cells, name) })
	switch {
	case beginByTokens(rulesOfTokens(tokens)):
		return impl.CkBegin
	case len(vars) > impl.MaxNames || len(cells) > impl.MaxNames:
		return impl.CkNames
	case both:
		return impl.CkKind
	case callsByTokens(tokens):
		return impl.CkArgs
	case rexByTokens(tokens):
		return impl.CkRex
	}
	return impl.CkDone
}

// checkByTokens asks for what the other means tell, and tells the code. What is
// too long for a source is left out.
func checkByTokens(t *testing.T, list []impl.Rule) int {
	t.Helper()
	text := rulesByForms(list)
	if len(text) > impl.MaxSource {
		return -1
	}
	if !impl.Tidy(list) {
		checkCode(t, list, impl.CkTidy)
		checkNamesByWalk(t, list)
		return impl.CkTidy
	}
	want := codeByTokens(t, text)
	checkCode(t, list, want)
	tokens, _ := impl.Tokens(text)
	vars, cells := namesByTokens(tokens)
	checkNames(t, list, strings.Join(vars, " "), strings.Join(cells, " "))
	checkNamesByWalk(t, list)
	return want
}

// checkNamesByWalk is of what may not be written too.
func checkNamesByWalk(t *testing.T, list []impl.Rule) {
	t.Helper()
	kinds := map[int][]string{}
	for _, r := range cloneRules(list) {
		for _, n := range []impl.Node{r.Pat, r.Body} {
			everyNode(&n, func(n *impl.Node) { kinds[n.Op] = append(kinds[n.Op], n.S) })
		}
	}
	wantVars, wantCells := kinds[impl.NdVar], append(kinds[impl.NdCell], kinds[impl.NdDrop]...)
	slices.Sort(wantVars)
	slices.Sort(wantCells)
	vars, cells := impl.Names(list)
	if !slices.Equal(vars, slices.Compact(wantVars)) || !slices.Equal(cells, slices.Compact(wantCells)) {
		t.Errorf("Names of %.300s = %q, %q", shownRules(list), vars, cells)
	}
}

// mend takes faults of a tidy tree away, but of those kinds that are kept.
func mend(chance *rand.Rand, n *impl.Node, kept map[int]bool, names int) {
	letter := func(first byte) string { return string(first + byte(chance.Intn(names))) }
	everyNode(n, func(n *impl.Node) {
		switch n.Op {
		case impl.NdVar:
			n.S = letter('a')
		case impl.NdCell, impl.NdDrop:
			n.S = letter('A')
			if kept[impl.CkKind] {
				n.S = letter('a')
			}
		case impl.NdCall:
			count := map[string]int{"index": 2, "substr": 2 + chance.Intn(2)}[n.S]
			for !kept[impl.CkArgs] && len(n.Kids) < max(count, 1) {
				n.Kids = append(n.Kids, ndVar("a"))
			}
			if !kept[impl.CkArgs] {
				n.Kids = n.Kids[:max(count, 1)]
			}
		case impl.NdFits:
			if !kept[impl.CkRex] || chance.Intn(2) == 0 {
				n.Kids[1] = ndRex("a")
			}
		case impl.NdRex:
			if !kept[impl.CkRex] || chance.Intn(2) == 0 {
				n.S = someOf(chance, "a", "", "(a|b)*", "[^/]", `\.`)
			}
		}
	})
}

// outOfBegin puts what a BEGIN may have for what it may not have.
func outOfBegin(n *impl.Node) {
	everyNode(n, func(n *impl.Node) {
		switch n.Op {
		case impl.NdField, impl.NdNr, impl.NdNf:
			*n = ndText("nothing")
		case impl.NdNext:
			*n = ndOf(impl.NdPrint)
		}
		for i, kid := range n.Kids {
			if kid.Op == impl.NdRex && !(n.Op == impl.NdFits && i == 1) {
				n.Kids[i] = ndNum(one)
			}
		}
	})
}

func likelyProgram(chance *rand.Rand) []impl.Rule {
	list := cloneRules(rulesByChance(chance))
	kept := map[int]bool{}
	for code := impl.CkBegin; code <= impl.CkRex; code++ {
		kept[code] = chance.Intn(4) == 0
	}
	names := 1 + chance.Intn(impl.MaxNames)
	if kept[impl.CkNames] {
		names = 15
		body := &list[len(list)-1].Body
		body.Kids = append(body.Kids, ndOf(impl.NdPrint, slices.Repeat([]impl.Node{someOf(chance, ndVar("x"), ndNamed(impl.NdCell, "x", ndNum(one)))}, 15)...))
	}
	for i := range list {
		if list[i].Kind == impl.RlBegin && i > 0 && !kept[impl.CkBegin] {
			list[i].Kind = impl.RlAll
		}
		mend(chance, &list[i].Pat, kept, names)
		mend(chance, &list[i].Body, kept, names)
		if list[i].Kind == impl.RlBegin && !kept[impl.CkBegin] {
			outOfBegin(&list[i].Body)
		}
	}
	return list
}

func TestCheckByChance(t *testing.T) {
	chance := rand.New(rand.NewSource(110))
	var codes [impl.CkRex + 1]int
	for range 20000 {
		list := likelyProgram(chance)
		if code := checkByTokens(t, list); code >= 0 {
			codes[code]++
		}
		for range 2 {
			if code := checkByTokens(t, turnedRules(chance, list)); code >= 0 {
				codes[code]++
			}
		}
	}
	for code, count := range codes {
		if count < 500 {
			t.Errorf("code %d came %d times: %d", code, count, codes)
		}
	}
}

// TestCheckOfSources: what comes from any source is tidy, and what is told of it
// by its tree is what its text tells.
func TestCheckOfSources(t *testing.T) {
	g := newGrammar()
	chance := rand.New(rand.NewSource(111))
	for range 3000 {
		if list, bad := impl.Parse(joined(chance, g.sentence(chance, nil, "start", 12+chance.Intn(30), 40))); bad == -1 {
			if checkByTokens(t, list) == impl.CkTidy {
				t.Errorf("not tidy: %.300s", shownRules(list))
			}
		}
	}
}

// faults are rules with one fault alone each, whatever stands ahead of them, and
// as statements, where they may stand in one rule.
func faults() map[int][]impl.Rule {
	one1, next := ndNum(one), ndOf(impl.NdNext)
	names := func(first byte, count int, op int, kids ...impl.Node) impl.Node {
		n := ndOf(impl.NdPrint)
		for i := range count {
			n.Kids = append(n.Kids, ndNamed(op, string(first+byte(i)), kids...))
		}
		return n
	}
	return map[int][]impl.Rule{
		impl.CkTidy:  {allRule(impl.Node{Op: impl.NdNext, N: 1}), allRule(ndOf(impl.NdDo)), someRule(impl.Node{}), {Kind: impl.RlAll}, {Kind: 4, Body: ndBlock()}, someRule(ndVar("if")), doRule(ndNum(-1))},
		impl.CkBegin: {beginRule(), beginRule(next), beginRule(ndOf(impl.NdDo, ndOf(impl.NdNr)))},
		impl.CkNames: {allRule(names('a', 9, impl.NdVar)), allRule(names('A', 9, impl.NdCell, one1)), someRule(names('m', 10, impl.NdVar).Kids[0], names('m', 10, impl.NdVar))},
		impl.CkKind:  {doRule(ndNamed(impl.NdCell, "q", ndVar("q"))), someRule(ndVar("z"), ndNamed(impl.NdDrop, "z", one1))},
		impl.CkArgs:  {doRule(ndNamed(impl.NdCall, "length")), someRule(ndNamed(impl.NdCall, "index", one1)), allRule(ndOf(impl.NdPrint, ndNamed(impl.NdCall, "substr", one1, one1, one1, one1)))},
		impl.CkRex:   {someRule(ndRex("(")), doRule(twoOf(impl.NdFits, one1, one1)), allRule(ndOf(impl.NdWhile, twoOf(impl.NdFits, one1, ndRex("*")), ndBlock()))},
	}
}

func TestCheckEachTwoFaults(t *testing.T) {
	all := faults()
	for a := impl.CkTidy; a <= impl.CkRex; a++ {
		for _, first := range all[a] {
			checkCode(t, []impl.Rule{allRule(), first}, a)
			checkCode(t, []impl.Rule{allRule(), first, allRule()}, a)
			for b := impl.CkTidy; b <= impl.CkRex; b++ {
				for _, second := range all[b] {
					checkCode(t, []impl.Rule{allRule(), first, second}, min(a, b))
					checkCode(t, []impl.Rule{allRule(), second, allRule(), first}, min(a, b))
					// Both in one rule: what is in Pat goes into a statement.
					if a != impl.CkTidy && b != impl.CkTidy && a != impl.CkBegin && b != impl.CkBegin {
						list := ndOf(impl.NdPrint)
						for _, r := range []impl.Rule{first, second} {
							if r.Kind == impl.RlSome {
								list.Kids = append(list.Kids, r.Pat)
							}
						}
						checkCode(t, []impl.Rule{allRule(first.Body, second.Body, list)}, min(a, b))
						checkCode(t, []impl.Rule{allRule(list, second.Body, first.Body)}, min(a, b))
					}
				}
			}
		}
	}
}

func TestCheckEachSetOfFaults(t *testing.T) {
	all := faults()
	chance := rand.New(rand.NewSource(112))
	for set := range 1 << impl.CkRex {
		for range 40 {
			list, want := []impl.Rule{allRule(), someRule(ndVar("y"))}, impl.CkDone
			for code := impl.CkRex; code >= impl.CkTidy; code-- {
				if set>>(code-1)&1 == 1 {
					list, want = append(list, someOf(chance, all[code]...)), code
				}
			}
			more := list[1:]
			chance.Shuffle(len(more), func(i int, j int) { more[i], more[j] = more[j], more[i] })
			checkCode(t, list, want)
		}
	}
}

// TestCheckWithinBegin: a BEGIN that is the first rule has two faults itself.
func TestCheckWithinBegin(t *testing.T) {
	for code, list := range faults() {
		for _, r := range list {
			if code == impl.CkTidy || code == impl.CkBegin {
				continue
			}
			next := ndOf(impl.NdNext)
			checkCode(t, []impl.Rule{beginRule(next), r}, impl.CkBegin)
			checkCode(t, []impl.Rule{beginRule(r.Body, next)}, impl.CkBegin)
			checkCode(t, []impl.Rule{beginRule(next, r.Body)}, impl.CkBegin)
			checkCode(t, []impl.Rule{beginRule(), r}, code)
			checkCode(t, []impl.Rule{beginRule(ndOf(impl.NdDo, ndOf(impl.NdNr))), r, {}}, impl.CkTidy)
		}
	}
}

// TestCheckUntidy: whatever is not tidy by chapter 9, and what Names tells of it.
func TestCheckUntidy(t *testing.T) {
	checkCode(t, make([]impl.Rule, 1), impl.CkTidy)
	for _, n := range tidyNodes() {
		for _, other := range withOthers(n) {
			for _, list := range [][]impl.Rule{{ruleWith(other)}, {beginRule(), ruleWith(other)}, {ruleWith(other), beginRule()}} {
				checkCode(t, list, impl.CkTidy)
				checkNamesByWalk(t, list)
			}
		}
	}
	for _, s := range append([]string{"", "abcdefghi", "a b", "1", "\xff", "x\n", strings.Repeat("n", 300)}, keywords...) {
		for _, list := range [][]impl.Rule{{someRule(ndVar(s))}, {someRule(ndNamed(impl.NdCell, s, ndVar("x")))}, {allRule(ndNamed(impl.NdDrop, s, ndVar("x")))}, {beginRule(), {Pat: ndVar(s)}}} {
			checkCode(t, list, impl.CkTidy)
			checkNamesByWalk(t, list)
		}
	}
	// Names with kids, and where no name may stand.
	cell, drop := ndNamed(impl.NdCell, "c"), ndNamed(impl.NdDrop, "d", ndVar("e"), ndVar("f"))
	for _, list := range [][]impl.Rule{
		{{Kind: impl.RlBegin, Pat: ndVar("x"), Body: ndBlock()}}, {{Kind: impl.RlAll, Pat: cell, Body: drop}}, {{Kind: 7, Pat: ndNamed(impl.NdVar, "x", cell, drop)}}, {{Pat: ndOf(99, ndOf(-1, ndVar("x"), cell))}},
		{someRule(ndOf(impl.NdNum, ndVar("x")))}, {allRule(ndVar("x"))}, {{Body: ndVar("x")}}, {{Pat: drop, Body: cell}, {Pat: ndVar("a"), Body: ndVar("b")}}, {allRule(ndOf(impl.NdNext, ndOf(impl.NdNext, drop)))},
	} {
		checkCode(t, list, impl.CkTidy)
		checkNamesByWalk(t, list)
	}
	// Those within each other too often.
	for what, way := range wraps() {
		for _, deep := range []int{impl.MaxTree, impl.MaxTree + 1, impl.MaxTree + 2, 40} {
			list := []impl.Rule{someRule(wrapped(ndVar("q"), deep, way, wraps()["minus"]))}
			if got := impl.Check(list) == impl.CkTidy; got != (deep > impl.MaxTree) {
				t.Errorf("%s, %d deep: CkTidy %t", what, deep, got)
			}
			checkNamesByWalk(t, list)
		}
	}
}

// TestCheckSoon: lists that are shared so often, or that hold themselves, that
// nobody goes all ways through them.
func TestCheckSoon(t *testing.T) {
	wide := func(leaf impl.Node, deep int) impl.Node {
		for range deep {
			leaf = ndBlock(slices.Repeat([]impl.Node{leaf}, 100)...)
		}
		return leaf
	}
	asked := func(what string, body impl.Node, want int, vars string, cells string) {
		t.Helper()
		for _, kind := range []int{impl.RlBegin, impl.RlAll} {
			list := []impl.Rule{{Kind: kind, Body: body}}
			if got := impl.Check(list); got != want && !(want == impl.CkBegin && kind == impl.RlAll && got == impl.CkDone) {
				t.Errorf("%s: Check = %d, want %d", what, got, want)
			}
			gotVars, gotCells := impl.Names(list)
			if strings.Join(gotVars, " ") != vars || strings.Join(gotCells, " ") != cells {
				t.Errorf("%s: Names = %q, %q, want %q, %q", what, gotVars, gotCells, vars, cells)
			}
		}
	}
	do := func(n impl.Node) impl.Node { return ndOf(impl.NdDo, n) }
	asked("many ways", wide(do(ndVar("x")), impl.MaxTree-2), impl.CkDone, "x", "")
	asked("many ways to a cell", wide(do(ndNamed(impl.NdCell, "y", ndVar("x"))), impl.MaxTree-3), impl.CkDone, "x", "y")
	asked("many ways to a field", wide(do(ndOf(impl.NdField, ndVar("x"))), impl.MaxTree-3), impl.CkBegin, "x", "")
	asked("many ways to a pattern", wide(do(ndRex("a")), impl.MaxTree-2), impl.CkBegin, "", "")
	asked("many ways to both", wide(do(ndNamed(impl.NdCell, "x", ndVar("x"))), impl.MaxTree-3), impl.CkKind, "x", "x")
	asked("many ways to a call", wide(do(ndNamed(impl.NdCall, "int")), impl.MaxTree-2), impl.CkArgs, "", "")
	asked("many ways to no pattern", wide(do(twoOf(impl.NdFits, ndVar("x"), ndRex("("))), impl.MaxTree-3), impl.CkRex, "x", "")
	asked("many ways, too deep", wide(do(ndVar("x")), 300), impl.CkTidy, "x", "")
	chain := ndNamed(impl.NdCell, "last")
	for i := range 1000000 {
		chain = ndNamed(impl.NdVar, string(rune('a'+i%3)), chain)
	}
	asked("a long chain", chain, impl.CkTidy, "a b c", "last")
	for size := 1; size <= 4; size++ {
		kids := make([]impl.Node, size)
		for i := range kids {
			kids[i] = impl.Node{Op: impl.NdVar, S: string(rune('a' + i)), Kids: kids}
		}
		kids[0].Op = impl.NdDrop
		asked(fmt.Sprintf("what holds itself, %d kids", size), kids[0], impl.CkTidy, strings.Join(strings.Fields("b c d")[:size-1], " "), "a")
		asked("what holds itself, in a block", ndBlock(kids...), impl.CkTidy, strings.Join(strings.Fields("b c d")[:size-1], " "), "a")
	}
	// One tree for many rules, and rules without end in themselves.
	body := ndBlock(slices.Repeat([]impl.Node{do(ndVar("x"))}, 300)...)
	many := slices.Repeat([]impl.Rule{{Kind: impl.RlAll, Body: body}}, 3000)
	if got := impl.Check(many); got != impl.CkDone {
		t.Errorf("one tree for many rules: %d", got)
	}
	many[2999].Kind = impl.RlBegin
	if got := impl.Check(many); got != impl.CkBegin {
		t.Errorf("a BEGIN as the last of many rules: %d", got)
	}
}

// TestNamesShared: a part of a list is another list than the whole of it.
func TestNamesShared(t *testing.T) {
	kids := []impl.Node{ndVar("a"), ndVar("b"), ndNamed(impl.NdCell, "c", ndVar("d"))}
	for from := range kids {
		for to := from; to <= len(kids); to++ {
			first, all := impl.Node{Op: impl.NdPrint, Kids: kids[from:to]}, impl.Node{Op: impl.NdPrint, Kids: kids}
			for _, list := range [][]impl.Rule{{allRule(first)}, {allRule(first, all)}, {allRule(all, first)}, {allRule(first), allRule(all)}, {beginRule(ndBlock(first)), allRule(all)}} {
				checkNamesByWalk(t, list)
				checkCode(t, list, impl.CkDone)
			}
		}
	}
}

// TestCheckWritesNothing: neither into what is handed in, nor behind it; and
// what is told is the same each time, in memory of its own.
func TestCheckWritesNothing(t *testing.T) {
	chance := rand.New(rand.NewSource(113))
	for i := range 400 {
		list := likelyProgram(chance)
		if i%3 == 0 {
			turnNode(chance, &list[len(list)-1].Body)
		}
		list = roomyRules(list)
		before := withRoomShown(list)
		code := impl.Check(list)
		vars, cells := impl.Names(list)
		told := fmt.Sprintf("%q %q", vars, cells)
		for i := range vars[:cap(vars)] {
			vars[:cap(vars)][i] = "var"
		}
		for i := range cells[:cap(cells)] {
			cells[:cap(cells)][i] = "cell"
		}
		if slices.Contains(vars, "cell") {
			t.Errorf("lists of one answer share memory: %q, %q", vars, cells)
		}
		if withRoomShown(list) != before {
			t.Errorf("something is written into %s", shownRules(list))
		}
		vars, cells = impl.Names(list)
		if again := fmt.Sprintf("%q %q", vars, cells); again != told || impl.Check(list) != code {
			t.Errorf("another answer of %s the second time: %s, first %s", shownRules(list), again, told)
		}
	}
}
