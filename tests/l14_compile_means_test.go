package tests

import (
	"fmt"
	"math/rand"
	"reflect"
	"slices"
	"strings"
	"testing"

	"loop.example/g00289/impl"
)

// The places of trees once more: each node is a piece whose jumps count from its
// own beginning, and pieces are glued.

func isJump(o impl.Op) bool { return o.Code == impl.OcJump || o.Code == impl.OcZero }

func glued(pieces ...[]impl.Op) []impl.Op {
	var list []impl.Op
	for _, piece := range pieces {
		begin := len(list)
		for _, o := range piece {
			if isJump(o) {
				o.N += begin
			}
			list = append(list, o)
		}
	}
	return list
}

func opsOf(list ...impl.Op) []impl.Op { return list }

// hop is of a jump to a place that counts from itself on.
func hop(code int, by int) []impl.Op { return opsOf(opN(code, by)) }

// ocNamed is the code with a name as an op has, in letters of whichever kind.
func ocNamed(name string) int {
	return 1 + slices.IndexFunc(strings.Fields(codeNames), func(s string) bool { return strings.EqualFold(s, "Oc"+name) })
}

type placesMeant struct {
	vars  []string
	cells []string
}

func (m placesMeant) each(list []impl.Node) []impl.Op {
	var pieces [][]impl.Op
	for _, n := range list {
		pieces = append(pieces, m.node(n))
	}
	return glued(pieces...)
}

func (m placesMeant) setMeant(n impl.Node, name string) []impl.Op {
	at := n.Kids[0]
	kids := glued(m.each(at.Kids), m.node(n.Kids[1]))
	if at.Op == impl.NdVar {
		return glued(kids, opsOf(opN(ocNamed(name+"Var"), slices.Index(m.vars, at.S))))
	}
	return glued(kids, opsOf(opN(ocNamed(name+"Cell"), slices.Index(m.cells, at.S))))
}

func (m placesMeant) printMeant(list []impl.Node) []impl.Op {
	if len(list) == 0 {
		list = []impl.Node{ndOf(impl.NdField, ndNum(0))}
	}
	ops := glued(m.node(list[0]), opsOf(opN(impl.OcShow, 0)))
	for _, n := range list[1:] {
		ops = glued(ops, m.node(n), opsOf(opN(impl.OcShow, 1)))
	}
	return glued(ops, opsOf(opN(impl.OcEndl, 0)))
}

func (m placesMeant) node(n impl.Node) []impl.Op {
	switch n.Op {
	case impl.NdNum:
		return opsOf(opN(impl.OcNum, n.N))
	case impl.NdText:
		return opsOf(opS(impl.OcText, n.S))
	case impl.NdRex:
		return opsOf(opS(impl.OcLine, n.S))
	case impl.NdVar:
		return opsOf(opN(impl.OcVar, slices.Index(m.vars, n.S)))
	case impl.NdCell:
		return glued(m.each(n.Kids), opsOf(opN(impl.OcCell, slices.Index(m.cells, n.S))))
	case impl.NdDrop:
		return glued(m.each(n.Kids), opsOf(opN(impl.OcDrop, slices.Index(m.cells, n.S))))
	case impl.NdCall:
		return glued(m.each(n.Kids), opsOf(opOf(impl.OcCall, len(n.Kids), n.S)))
	case impl.NdFits:
		return glued(m.node(n.Kids[0]), opsOf(opS(impl.OcFits, n.Kids[1].S)))
	case impl.NdSet:
		return m.setMeant(n, "Set")
	case impl.NdPlus:
		return m.setMeant(n, "Plus")
	case impl.NdPrint:
		return m.printMeant(n.Kids)
	case impl.NdBlock:
		return m.each(n.Kids)
	case impl.NdNext:
		return opsOf(opN(impl.OcNext, 0))
	case impl.NdDo:
		return glued(m.each(n.Kids), opsOf(opN(impl.OcPop, 0)))
	case impl.NdAnd, impl.NdOr, impl.NdIf, impl.NdWhile:
		return m.branch(n)
	}
	return glued(m.each(n.Kids), opsOf(opN(ocNamed(opNames[n.Op]), 0)))
}

func (m placesMeant) branch(n impl.Node) []impl.Op {
	a, b := m.node(n.Kids[0]), m.node(n.Kids[1])
	yes := opsOf(opN(impl.OcBool, 0))
	switch {
	case n.Op == impl.NdAnd:
		return glued(a, hop(impl.OcZero, len(b)+3), b, yes, hop(impl.OcJump, 2), opsOf(opN(impl.OcNum, 0)))
	case n.Op == impl.NdOr:
		return glued(a, hop(impl.OcZero, 3), opsOf(opN(impl.OcNum, one)), hop(impl.OcJump, len(b)+2), b, yes)
	case n.Op == impl.NdWhile:
		return glued(a, hop(impl.OcZero, len(b)+2), b, hop(impl.OcJump, -len(a)-1-len(b)))
	case len(n.Kids) == 2:
		return glued(a, hop(impl.OcZero, len(b)+1), b)
	}
	c := m.node(n.Kids[2])
	return glued(a, hop(impl.OcZero, len(b)+2), b, hop(impl.OcJump, len(c)+1), c)
}

// progMeant is of rules that Check is CkDone for; false where there are too many
// places.
func progMeant(list []impl.Rule) (impl.Prog, bool) {
	vars, cells := impl.Names(list)
	m := placesMeant{vars, cells}
	p := impl.Prog{Vars: vars, Cells: cells}
	for _, r := range list {
		body := m.node(r.Body)
		switch r.Kind {
		case impl.RlBegin:
			p.Start = glued(p.Start, body)
		case impl.RlSome:
			p.Main = glued(p.Main, m.node(r.Pat), hop(impl.OcZero, len(body)+1), body)
		default:
			p.Main = glued(p.Main, body)
		}
	}
	p.Start, p.Main = ended(p.Start...), ended(p.Main...)
	return p, len(p.Start) <= 1500 && len(p.Main) <= 1500
}

// checkMeantProg holds what is compiled against the words; it tells whether there
// is a program.
func checkMeantProg(t *testing.T, list []impl.Rule) bool {
	t.Helper()
	if code := impl.Check(list); code != impl.CkDone {
		checkNoProg(t, list, code)
		return false
	}
	want, ok := progMeant(list)
	if !ok {
		checkNoProg(t, list, impl.CkNames)
		return false
	}
	if got := compiled(t, list); !sameProg(got, want) {
		t.Fatalf("%.900s\nis %s\nwant %s", impl.Write(list), shownProg(got), shownProg(want))
	}
	return true
}

func TestCompileByChance(t *testing.T) {
	chance := rand.New(rand.NewSource(140))
	done := 0
	for range 3000 {
		if checkMeantProg(t, (&lively{chance: chance}).program()) {
			done++
		}
		likely := likelyProgram(chance)
		if checkMeantProg(t, likely) {
			done++
		}
		if checkMeantProg(t, turnedRules(chance, likely)) {
			done++
		}
	}
	if done < 3500 {
		t.Errorf("%d programs", done)
	}
}

// TestBuildByChance: Build of a text is Compile of what Parse tells.
func TestBuildByChance(t *testing.T) {
	chance := rand.New(rand.NewSource(141))
	g := newGrammar()
	kinds := map[int]int{}
	for i := range 6000 {
		src := joined(chance, g.sentence(chance, nil, "start", 12+chance.Intn(30), 40))
		if i%2 == 0 {
			src = impl.Write((&lively{chance: chance}).program())
		}
		if i%5 == 0 && len(src) > 0 {
			at := chance.Intn(len(src))
			src = src[:at] + src[at+1:]
		}
		got, code := impl.Build(src)
		kinds[code]++
		rules, bad := impl.Parse(src)
		if bad != -1 {
			checkNotBuilt(t, src, -1)
			continue
		}
		want, how := impl.Compile(rules)
		if code != how || !sameProg(got, want) || impl.ProgOk(got) != (code == impl.CkDone) {
			t.Errorf("Build of %.500q is %d, %s\nwant %d, %s", src, code, shownProg(got), how, shownProg(want))
		}
	}
	if kinds[-1] < 100 || kinds[impl.CkDone] < 1000 || kinds[impl.CkRex] < 10 {
		t.Error(kinds)
	}
}

// TestCompileEachLimit: whatever passes the limit, and at whichever of its places.
func TestCompileEachLimit(t *testing.T) {
	one1, x := ndNum(one), ndVar("x")
	var statements []impl.Node
	for _, n := range tidyNodes() {
		if n.Op == impl.NdFits {
			n.Kids = []impl.Node{x, ndRex("a")}
		}
		if n.Op == impl.NdCell || n.Op == impl.NdDrop {
			n.S = "y"
		}
		if n.Op == impl.NdCall {
			n.Kids = []impl.Node{x}
		}
		if isEOp(n.Op) {
			n = ndOf(impl.NdDo, n)
		}
		if n.Op != 0 {
			statements = append(statements, n)
		}
	}
	cell := ndNamed(impl.NdCell, "y", one1)
	statements = append(statements, ndOf(impl.NdPrint, x), ndOf(impl.NdPrint, x, x, one1), ndOf(impl.NdDo, twoOf(impl.NdSet, cell, x)), ndOf(impl.NdDo, twoOf(impl.NdPlus, cell, x)),
		ndOf(impl.NdIf, x, ndBlock(), ndBlock()), ndOf(impl.NdIf, x, ndBlock(ndOf(impl.NdNext)), ndBlock(ndOf(impl.NdNext))), ndOf(impl.NdWhile, x, ndBlock(ndOf(impl.NdPrint))))
	fill := slices.Repeat([]impl.Node{ndOf(impl.NdNext)}, impl.MaxOps)
	for _, n := range statements {
		for ahead := impl.MaxOps - 12; ahead <= impl.MaxOps; ahead++ {
			checkMeantProg(t, []impl.Rule{allRule(fill[:ahead]...), someRule(x, n)})
			checkMeantProg(t, []impl.Rule{allRule(append(slices.Clone(fill[:ahead]), n)...)})
		}
	}
}

// TestCompileDeep: jumps over jumps, as deep as a tree may be.
func TestCompileDeep(t *testing.T) {
	x := ndVar("x")
	for name, way := range wraps() {
		if name == "last" || name == "cell" || strings.Contains(name, fmt.Sprint(impl.NdFits)) {
			continue
		}
		checkMeantProg(t, []impl.Rule{someRule(wrapped(x, impl.MaxTree, way, wraps()["not"]), ndOf(impl.NdNext))})
	}
	for _, way := range statementWraps() {
		n := wrapped(ndOf(impl.NdDo, x), impl.MaxTree-1, way, statementWraps()["block"])
		checkMeantProg(t, []impl.Rule{allRule(n), someRule(x, n)})
	}
	both := x
	for range 8 {
		both = twoOf(impl.NdAnd, both, twoOf(impl.NdOr, x, x))
		both = twoOf(impl.NdOr, x, both)
		if impl.Deep(both) < impl.MaxTree {
			checkMeantProg(t, []impl.Rule{someRule(both), allRule(ndOf(impl.NdPrint, both, both))})
		}
	}
}

// TestCompileSoon: trees that nobody could go all ways through; of some there are
// no places at all.
func TestCompileSoon(t *testing.T) {
	wide := func(leaf impl.Node, deep int, count int) impl.Node {
		for range deep {
			leaf = ndBlock(slices.Repeat([]impl.Node{leaf}, count)...)
		}
		return leaf
	}
	next := ndOf(impl.NdNext)
	for what, c := range map[string]struct {
		body impl.Node
		main int
	}{
		"many ways":               {wide(next, impl.MaxTree-1, 100), 0},
		"many ways to nothing":    {wide(ndBlock(), impl.MaxTree-1, 100), 1},
		"nothing, then something": {ndBlock(wide(ndBlock(), impl.MaxTree-2, 1000), next, wide(ndBlock(), impl.MaxTree-2, 1000), next), 3},
		"nothing and something":   {wide(ndBlock(wide(ndBlock(), 7, 200), next, wide(ndBlock(), 7, 200)), 2, 30), 901},
		"many ways to a choice":   {wide(ndOf(impl.NdIf, ndVar("x"), wide(ndBlock(), 9, 100), wide(ndBlock(), 9, 100)), 2, 20), 1201},
		"many ways to a loop":     {wide(ndOf(impl.NdWhile, ndVar("x"), wide(ndBlock(), 9, 100)), 2, 22), 1453},
		"many es":                 {ndBlock(ndOf(impl.NdPrint, slices.Repeat([]impl.Node{ndText("")}, 1000000)...)), 0},
		"many statements":         {ndBlock(slices.Repeat([]impl.Node{next}, 1000000)...), 0},
		"many of nothing":         {ndBlock(slices.Repeat([]impl.Node{ndBlock()}, 1000000)...), 1},
		"much nothing, often":     {wide(ndBlock(append(slices.Repeat([]impl.Node{ndBlock(ndBlock())}, 200000), next)...), 1, 1499), 1500},
	} {
		list := []impl.Rule{{Kind: impl.RlAll, Body: c.body}}
		if c.main == 0 {
			checkNoProg(t, list, impl.CkNames)
			continue
		}
		if p := compiled(t, list); len(p.Main) != c.main || len(p.Start) != 1 {
			t.Errorf("%s: %d places", what, len(p.Main))
		}
	}
	e := ndVar("x")
	for range impl.MaxTree - 2 {
		e = twoOf(impl.NdAdd, e, e)
	}
	checkNoProg(t, []impl.Rule{someRule(e)}, impl.CkNames)
	many := slices.Repeat([]impl.Rule{allRule()}, 100000)
	compiled(t, many)
	checkNoProg(t, slices.Repeat([]impl.Rule{someRule(e)}, 100000), impl.CkNames)
}

// TestCompileShared: what is nothing as far as it goes in one block may go on in
// another one.
func TestCompileShared(t *testing.T) {
	kids := []impl.Node{ndBlock(), ndBlock(ndBlock()), ndOf(impl.NdNext), ndBlock()}
	var parts []impl.Node
	for from := range kids {
		for to := from; to <= len(kids); to++ {
			parts = append(parts, ndBlock(kids[from:to]...))
		}
	}
	checkMeantProg(t, []impl.Rule{allRule(parts...), {Kind: impl.RlAll, Body: parts[1]}, {Kind: impl.RlAll, Body: parts[4]}})
	loop := ndBlock(ndOf(impl.NdWhile, ndVar("x"), parts[4]), ndOf(impl.NdIf, twoOf(impl.NdOr, ndVar("y"), ndNum(0)), parts[4], parts[3]))
	for range 3 {
		loop = ndBlock(loop, parts[4], ndOf(impl.NdWhile, ndVar("z"), loop), loop)
		parts = append(parts, loop)
	}
	for _, a := range parts {
		for _, b := range parts {
			checkMeantProg(t, []impl.Rule{allRule(a, b), someRule(ndVar("x"), ndOf(impl.NdIf, ndVar("y"), a, b), b)})
		}
	}
}

// spoiltProg writes over all that a program has, and over the room behind it.
func spoiltProg(p impl.Prog) {
	for _, names := range [][]string{p.Vars, p.Cells} {
		for i := range names[:cap(names)] {
			names[:cap(names)][i] = "if"
		}
	}
	for _, ops := range [][]impl.Op{p.Start, p.Main} {
		for i := range ops[:cap(ops)] {
			ops[:cap(ops)][i] = opOf(99, -1, "spoilt")
		}
	}
}

func cloneProg(p impl.Prog) impl.Prog {
	return impl.Prog{Vars: slices.Clone(p.Vars), Cells: slices.Clone(p.Cells), Start: slices.Clone(p.Start), Main: slices.Clone(p.Main)}
}

// TestCompileWritesNothing: neither into what is handed in, nor behind it; what is
// told is memory of its own, and the same each time.
func TestCompileWritesNothing(t *testing.T) {
	chance := rand.New(rand.NewSource(142))
	for i := range 600 {
		list := likelyProgram(chance)
		if i%2 == 0 {
			list = (&lively{chance: chance}).program()
		}
		list = roomyRules(list)
		before := withRoomShown(list)
		first, code := impl.Compile(list)
		kept := cloneProg(first)
		spoiltProg(first)
		if withRoomShown(list) != before {
			t.Errorf("something is written into %s", shownRules(list))
		}
		again, how := impl.Compile(list)
		if how != code || !sameProg(again, kept) {
			t.Errorf("another answer the second time: %s, first %s", shownProg(again), shownProg(kept))
		}
		for j := range 4 {
			p, _ := impl.Compile(list)
			part := impl.Prog{}
			reflect.ValueOf(&part).Elem().Field(j).Set(reflect.ValueOf(p).Field(j))
			spoiltProg(part)
			for k := range 4 {
				got, want := reflect.ValueOf(p).Field(k), reflect.ValueOf(kept).Field(k)
				if k != j && !reflect.DeepEqual(got.Interface(), want.Interface()) && got.Len()+want.Len() > 0 {
					t.Fatalf("lists of one answer share memory: %s", shownProg(p))
				}
			}
		}
	}
}

func TestProgOkWritesNothing(t *testing.T) {
	progs := []impl.Prog{rightProg(), {}, built(t, "BEGIN { x = 1; } y[x] { print x; }"), {Vars: []string{"b", "a"}, Start: ended(), Main: ended()}}
	for _, p := range progs {
		var cut, whole impl.Prog
		cut.Vars, whole.Vars = withRoom(p.Vars, "room")
		cut.Cells, whole.Cells = withRoom(p.Cells, "room")
		cut.Start, whole.Start = withRoom(p.Start, opN(88, 1))
		cut.Main, whole.Main = withRoom(p.Main, opN(88, 2))
		before := cloneProg(whole)
		first := impl.ProgOk(cut)
		if second := impl.ProgOk(cut); first != second || first != impl.ProgOk(p) {
			t.Errorf("another answer the second time of %s", shownProg(p))
		}
		if !sameProg(whole, before) {
			t.Errorf("something is written into %s", shownProg(whole))
		}
	}
}

// nameByWords tells a name as the document does.
func nameByWords(s string) bool {
	if len(s) < 1 || len(s) > 8 || impl.Keyword(s) {
		return false
	}
	return strings.Trim(s, "abcdefghijklmnopqrstuvwxyzABCDEFGHIJKLMNOPQRSTUVWXYZ") == ""
}

func progByWords(p impl.Prog) bool {
	for _, names := range [][]string{p.Vars, p.Cells} {
		once := slices.Compact(slices.Sorted(slices.Values(names)))
		if len(names) > 8 || !slices.Equal(once, names) || slices.ContainsFunc(names, func(s string) bool { return !nameByWords(s) }) {
			return false
		}
	}
	all := slices.Concat(p.Vars, p.Cells)
	slices.Sort(all)
	if len(slices.Compact(all)) != len(p.Vars)+len(p.Cells) {
		return false
	}
	for _, list := range [][]impl.Op{p.Start, p.Main} {
		if len(list) < 1 || len(list) > 1500 || list[len(list)-1].Code != impl.OcNext {
			return false
		}
		if slices.ContainsFunc(list, func(o impl.Op) bool { return !rightOp(o, len(p.Vars), len(p.Cells), len(list)) }) {
			return false
		}
	}
	return true
}

func TestProgOkByChance(t *testing.T) {
	chance := rand.New(rand.NewSource(143))
	rights := 0
	for range 20000 {
		var p impl.Prog
		for _, names := range []*[]string{&p.Vars, &p.Cells} {
			for range chance.Intn(10) {
				*names = append(*names, someOf(chance, fewBytes(chance, "abcdefgXYZ", 8)+"k", fewBytes(chance, "abcdefgXYZ", 7)+"m", "a", "b", someOf(chance, "int", "NR", "", "a1", "abcdefghi", "ok")))
			}
			if chance.Intn(10) > 0 {
				slices.Sort(*names)
				*names = slices.Compact(*names)
			}
		}
		for _, list := range []*[]impl.Op{&p.Start, &p.Main} {
			for range chance.Intn(5) {
				*list = append(*list, someOf(chance, rightOps()...).op)
			}
			if chance.Intn(20) > 0 {
				*list = ended(*list...)
			}
		}
		right := progByWords(p)
		checkProg(t, p, right)
		if right {
			rights++
		}
	}
	if rights < 800 || rights > 19000 {
		t.Errorf("%d were right", rights)
	}
}
