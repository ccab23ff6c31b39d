package tests

import (
	"math/rand"
	"slices"
	"strings"
	"testing"

	"loop.example/g00289/impl"
)

// The tests of this file hold places against the trees that they were made of, and
// against another machine: one that asks the words for what a place takes, has
// cells in maps and numbers of any size, and ends a line by a panic.

// checkAsTrees asks Run for what Line told, where that did not use up its fuel: of
// a node there are so few places that these do not use up theirs either.
func checkAsTrees(t *testing.T, list []impl.Rule, s impl.State, line string, want impl.State, text string) {
	t.Helper()
	p, code := impl.Compile(list)
	if code != impl.CkDone || want.Err == impl.ErFuel && s.Err == impl.ErNone {
		return
	}
	got, out := impl.Run(p, s, line)
	if !sameState(got, want) || out != text {
		t.Errorf("%.900s\nline %.100q, from %s\nby places %s, %q\nby trees  %s, %q", impl.Write(list), line, shownState(s), shownState(got), out, shownState(want), text)
	}
}

// checkBeginAsTrees asks RunStart for what Begin and BeginOut tell.
func checkBeginAsTrees(t *testing.T, list []impl.Rule) impl.State {
	t.Helper()
	want, text := impl.Begin(list), impl.BeginOut(list)
	p, code := impl.Compile(list)
	if code != impl.CkDone || want.Err == impl.ErFuel {
		return want
	}
	if got, out := impl.RunStart(p); !sameState(got, want) || out != text {
		t.Errorf("%.900s\nthe beginning by places %s, %q\nby trees %s, %q", impl.Write(list), shownState(got), out, shownState(want), text)
	}
	return want
}

// checkLinesAsTrees is of a beginning and of some lines; it counts with which Err
// they end.
func checkLinesAsTrees(t *testing.T, list []impl.Rule, lines []string, codes map[int]int) {
	t.Helper()
	s := checkBeginAsTrees(t, list)
	for _, line := range lines {
		next, out := impl.Line(list, s, line)
		checkAsTrees(t, list, s, line, next, out)
		s = next
		codes[s.Err]++
	}
	if p, code := impl.Compile(list); code == impl.CkDone && s.Err != impl.ErFuel {
		checkAll(t, p, lines)
		if all, _ := impl.RunAll(p, lines); !sameState(all, s) {
			t.Errorf("%.900s\nall lines by places %s\nby trees %s", impl.Write(list), shownState(all), shownState(s))
		}
	}
}

// TestRunAsTrees is promise 15.
func TestRunAsTrees(t *testing.T) {
	chance := rand.New(rand.NewSource(150))
	codes := map[int]int{}
	for range 2500 {
		checkLinesAsTrees(t, (&lively{chance: chance}).program(), linesByChance(chance), codes)
		if likely := likelyProgram(chance); impl.Check(likely) == impl.CkDone {
			checkLinesAsTrees(t, likely, linesByChance(chance), codes)
		}
	}
	for code := impl.ErNone; code < impl.ErStack; code++ {
		if codes[code] < 25 {
			t.Errorf("Err %d came %d times: %v", code, codes[code], codes)
		}
	}
	if codes[impl.ErStack] > 0 {
		t.Errorf("trees with a stack: %v", codes)
	}
}

// TestRunFuelOfTrees: what takes the most places for a node, as long as a tree has
// fuel for it.
func TestRunFuelOfTrees(t *testing.T) {
	for _, src := range []string{
		"{ while (i < 426) { i += 1; } }", "{ while ((i += 1) < 740) { } }", "{ while ((i += 1) < 270 && (1 || x) && (x || 1)) { } }", "{ while (!((i += 1) >= 270 || !1 && 0)) { if (0) { } else { } } }", "{ while ((i += 1) < 150) { if (x) { } else { if (1) { } else { } } { } delete A[i]; $0; /a/; } }",
	} {
		list := runnable(t, src)
		s, _ := impl.Line(list, impl.Begin(list), "a")
		if s.Err != impl.ErNone {
			t.Errorf("%s uses up its fuel as a tree", src)
		}
		checkLinesAsTrees(t, list, []string{"a", "", "a b"}, map[int]int{})
	}
	// Of what uses it up the places may still have some.
	p := built(t, "{ while (i < 1500) { i += 1; } print i; }")
	if s, out := impl.Run(p, impl.State{Vars: make([]impl.Val, 1)}, ""); s.Err != impl.ErNone || out != "1500\n" {
		t.Errorf("%s, %q", shownState(s), out)
	}
}

// TestRunDeepTrees: whatever is within each other as deep as it may be has room on
// the stack.
func TestRunDeepTrees(t *testing.T) {
	x := ndVar("x")
	for name, way := range wraps() {
		if name == "last" || name == "cell" {
			continue
		}
		list := []impl.Rule{someRule(wrapped(x, impl.MaxTree, way, wraps()["not"]), ndOf(impl.NdPrint, x))}
		if impl.Check(list) == impl.CkDone {
			checkLinesAsTrees(t, list, []string{"a", "5", ""}, map[int]int{})
		}
	}
	deep := ndNum(one)
	for impl.Deep(deep) < impl.MaxTree-1 {
		deep = ndNamed(impl.NdCall, "substr", ndText("abc"), x, deep)
	}
	list := []impl.Rule{doRule(twoOf(impl.NdSet, x, deep.Kids[2])), doRule(deep)}
	checkLinesAsTrees(t, list, []string{"a"}, map[int]int{})
}

// stackMeant is the other machine.
type stackMeant struct {
	vars  []impl.Val
	cells []map[string]impl.Val
	nr    int
	line  string
	out   string
	stack []impl.Val
	at    int
}

func newStackMeant(p impl.Prog, s impl.State, line string) *stackMeant {
	m := &stackMeant{vars: slices.Clone(s.Vars), nr: s.Nr, line: line}
	for range p.Cells {
		m.cells = append(m.cells, map[string]impl.Val{})
	}
	for _, c := range s.Cells {
		m.cells[c.Name][c.Key] = c.Val
	}
	return m
}

func (m *stackMeant) state() impl.State {
	s := impl.State{Vars: m.vars, Nr: m.nr}
	for i, list := range m.cells {
		var keys []string
		for key := range list {
			keys = append(keys, key)
		}
		slices.Sort(keys)
		for _, key := range keys {
			s.Cells = append(s.Cells, cellOf(i, key, list[key]))
		}
	}
	return s
}

func (m *stackMeant) pop() impl.Val {
	v := m.stack[len(m.stack)-1]
	m.stack = m.stack[:len(m.stack)-1]
	return v
}

func (m *stackMeant) show(s string) {
	if m.out += s; len(m.out) > 600 {
		panic(meantWrong(impl.ErOut))
	}
}

func (m *stackMeant) setCell(list int, key string, v impl.Val) impl.Val {
	m.cells[list][key] = v
	count := 0
	for _, list := range m.cells {
		count += len(list)
	}
	if count > 40 {
		panic(meantWrong(impl.ErRoom))
	}
	return v
}

// keep does what sets, and tells the value that stays.
func (m *stackMeant) keep(o impl.Op) impl.Val {
	v := m.pop()
	switch o.Code {
	case impl.OcSetVar:
		m.vars[o.N] = v
	case impl.OcPlusVar:
		m.vars[o.N] = numbersMeant(impl.NdAdd, byNum(m.vars[o.N]), byNum(v))
		v = m.vars[o.N]
	case impl.OcSetCell:
		m.setCell(o.N, byText(m.pop()), v)
	case impl.OcPlusCell:
		key := byText(m.pop())
		v = m.setCell(o.N, key, numbersMeant(impl.NdAdd, byNum(m.cells[o.N][key]), byNum(v)))
	}
	return v
}

// pair has the ops of a tree and of places in the same order.
func (m *stackMeant) pair(op int) impl.Val {
	second := m.pop()
	first := m.pop()
	switch {
	case op <= impl.NdMod:
		return numbersMeant(op, byNum(first), byNum(second))
	case op == impl.NdCat:
		return textOrLong(byText(first) + byText(second))
	}
	return orderMeant(op, first, second)
}

func (m *stackMeant) call(o impl.Op) impl.Val {
	var list []impl.Val
	for range o.N {
		list = append([]impl.Val{m.pop()}, list...)
	}
	switch o.S {
	case "index":
		list = append(list, valNone)[:2]
	case "substr":
		list = append(list, valNone)[:max(2, len(list))]
	default:
		list = list[:1]
	}
	return callMeant(o.S, list)
}

// made is the value that a place leaves.
func (m *stackMeant) made(o impl.Op) impl.Val {
	fields := func(n int) impl.Val { return (&meant{line: m.line}).fieldMeant(n) }
	switch o.Code {
	case impl.OcNum:
		return valNum(o.N)
	case impl.OcText:
		return textOrLong(o.S)
	case impl.OcVar:
		return m.vars[o.N]
	case impl.OcCell:
		return m.cells[o.N][byText(m.pop())]
	case impl.OcSetVar, impl.OcPlusVar, impl.OcSetCell, impl.OcPlusCell:
		return m.keep(o)
	case impl.OcField:
		return fields(wholeMeant(m.pop()))
	case impl.OcNr:
		return valNum(m.nr * one)
	case impl.OcNf:
		return valNum(len(fieldsBySplit(m.line)) * one)
	case impl.OcFits:
		return fitsMeant(o.S, byText(m.pop()))
	case impl.OcLine:
		return fitsMeant(o.S, m.line)
	case impl.OcNot:
		return yesNo(!likeTrue(m.pop()))
	case impl.OcMinus:
		return valNum(0 - byNum(m.pop()))
	case impl.OcBool:
		return yesNo(likeTrue(m.pop()))
	case impl.OcCall:
		return m.call(o)
	}
	return m.pair(o.Code - impl.OcAdd + impl.NdAdd)
}

func (m *stackMeant) step(o impl.Op) {
	takes, leaves := takesAndLeaves(o)
	if len(m.stack) < takes || len(m.stack)-takes+leaves > 64 {
		panic(meantWrong(impl.ErStack))
	}
	m.at++
	switch {
	case leaves > 0:
		m.stack = append(m.stack, m.made(o))
	case o.Code == impl.OcJump, o.Code == impl.OcZero && !likeTrue(m.pop()):
		m.at = o.N
	case o.Code == impl.OcPop:
		m.pop()
	case o.Code == impl.OcShow:
		m.show(strings.Repeat(" ", o.N) + byText(m.pop()))
	case o.Code == impl.OcEndl:
		m.show("\n")
	case o.Code == impl.OcDrop:
		delete(m.cells[o.N], byText(m.pop()))
	case o.Code == impl.OcNext:
		panic(meantNext{})
	}
}

// placesRan is the state behind places from s on, and what they put out.
func placesRan(p impl.Prog, places []impl.Op, s impl.State, line string, counts int) (after impl.State, out string) {
	m := newStackMeant(p, s, line)
	defer func() {
		switch why := recover().(type) {
		case meantNext:
			after, out = m.state(), m.out
		case meantWrong:
			after, out = s, ""
			after.Err = int(why)
		default:
			panic(why)
		}
	}()
	if m.nr += counts; m.nr > 1000000 {
		panic(meantWrong(impl.ErNum))
	}
	for range 20000 {
		m.step(places[m.at])
	}
	panic(meantWrong(impl.ErFuel))
}

// placeMaker makes lists of places that mostly find on the stack what they take.
type placeMaker struct {
	chance *rand.Rand
	loops  int
}

func (g *placeMaker) any(at int, count int) impl.Op {
	c := g.chance
	switch k := c.Intn(24); {
	case k < 4:
		return opN(impl.OcNum, someOf(c, 0, one, 2*one, 3*one, -one, one/2, 10*one, 1, top, -top))
	case k < 6:
		return opS(impl.OcText, someOf(c, "", "a", "ab", "B", "10", "9", " 2x", "-1.5", "k", strings.Repeat("x", someOf(c, 20, 150, 299, 300, 301))))
	case k < 8:
		return opN(impl.OcVar, c.Intn(4))
	case k < 10:
		return opN(someOf(c, impl.OcSetVar, impl.OcPlusVar), c.Intn(4))
	case k < 12:
		return opN(someOf(c, impl.OcCell, impl.OcSetCell, impl.OcPlusCell, impl.OcDrop), c.Intn(2))
	case k < 14:
		return opN(someOf(c, impl.OcField, impl.OcNr, impl.OcNf, impl.OcNot, impl.OcMinus, impl.OcBool), 0)
	case k < 17:
		return opN(impl.OcAdd+c.Intn(impl.OcOther-impl.OcAdd+1), 0)
	case k < 18:
		return opS(someOf(c, impl.OcFits, impl.OcLine), someOf(c, "a", "^[0-9.]+$", "x*", "^$", "(a|1)+b?"))
	case k < 20:
		return opOf(impl.OcCall, 1+c.Intn(3), someOf(c, strings.Fields(sixCalls)...))
	case k < 21:
		to := at + 1 + c.Intn(4)
		if c.Intn(10) < g.loops {
			to = c.Intn(count + 1)
		}
		return opN(someOf(c, impl.OcJump, impl.OcZero, impl.OcZero, impl.OcZero), min(to, count))
	case k < 23:
		return someOf(c, opN(impl.OcPop, 0), opN(impl.OcShow, c.Intn(2)), opN(impl.OcShow, c.Intn(2)), opN(impl.OcEndl, 0))
	}
	return opN(someOf(c, impl.OcPop, impl.OcEndl, impl.OcEndl, impl.OcNext), 0)
}

func (g *placeMaker) list(count int) []impl.Op {
	var list []impl.Op
	have := 0
	for at := range count {
		o := g.any(at, count)
		for tries := range 8 {
			if takes, _ := takesAndLeaves(o); takes <= have || tries == 7 && g.chance.Intn(4) == 0 {
				break
			}
			o = g.any(at, count)
		}
		takes, leaves := takesAndLeaves(o)
		have = max(0, have-takes) + leaves
		list = append(list, o)
	}
	// Over and over, with an empty stack as often as not.
	if g.chance.Intn(10) < g.loops {
		list = append(append(list, slices.Repeat([]impl.Op{opN(impl.OcPop, 0)}, someOf(g.chance, 0, have))...), opN(impl.OcJump, 0))
	}
	return ended(list...)
}

func TestRunByChance(t *testing.T) {
	chance := rand.New(rand.NewSource(151))
	codes := map[int]int{}
	for range 3500 {
		g := &placeMaker{chance, chance.Intn(3)}
		p := impl.Prog{Vars: []string{"a", "b", "c", "d"}, Cells: []string{"A", "B"}, Start: g.list(chance.Intn(12)), Main: g.list(chance.Intn(40))}
		want, text := placesRan(p, p.Start, impl.State{Vars: make([]impl.Val, 4)}, "", 0)
		got, out := impl.RunStart(p)
		if !sameState(got, want) || out != text {
			t.Fatalf("%s\nis %s, %q; want %s, %q", shownProg(p), shownState(got), out, shownState(want), text)
		}
		if got.Err != impl.ErNone || chance.Intn(2) == 0 {
			got = impl.State{Vars: []impl.Val{num(1), valText("a"), valNone, valLook(2*one, "2")}, Cells: manyCells(someOf(chance, 0, 20, 39, 40)), Nr: someOf(chance, 0, 7, 999997, 1000000)}
		}
		lines := linesByChance(chance)
		for _, line := range lines {
			if got.Err != impl.ErNone {
				break
			}
			want, text = placesRan(p, p.Main, got, line, 1)
			next, out := impl.Run(p, got, line)
			if !sameState(next, want) || out != text {
				t.Fatalf("%s\nline %q, from %s\nis %s, %q\nwant %s, %q", shownProg(p), line, shownState(got), shownState(next), out, shownState(want), text)
			}
			got = next
			codes[got.Err]++
		}
		checkAll(t, p, lines)
	}
	for code := impl.ErNone; code <= impl.ErStack; code++ {
		if codes[code] < 25 {
			t.Errorf("Err %d came %d times: %v", code, codes[code], codes)
		}
	}
}

// TestRunPairsOfAll is each place that takes two values with values of all kinds,
// some of all pairs.
func TestRunPairsOfAll(t *testing.T) {
	chance := rand.New(rand.NewSource(152))
	vals := slices.DeleteFunc(append(rightVals(), gridVals()...), func(v impl.Val) bool { return !rightVal(v) })
	var ops []impl.Op
	for _, c := range rightOps() {
		if takes, leaves := takesAndLeaves(c.op); leaves > 0 && takes > 0 && takes < 3 {
			ops = append(ops, c.op)
		}
	}
	for _, o := range ops {
		p := impl.Prog{Vars: []string{"a", "b", "c"}, Cells: []string{"A", "B"}, Start: ended(), Main: ended(opN(impl.OcVar, 0), opN(impl.OcVar, 1), o, opN(impl.OcSetVar, 2))}
		for _, a := range vals {
			b := someOf(chance, vals...)
			for _, s := range []impl.State{{Vars: []impl.Val{a, b, valText("was")}}, {Vars: []impl.Val{b, a, valNone}, Cells: manyCells(30)}} {
				want, _ := placesRan(p, p.Main, s, "a 1", 1)
				if got, _ := impl.Run(p, s, "a 1"); !sameState(got, want) {
					t.Fatalf("%s with %s, %s is %s, want %s", textOfOp(o), shownVal(a), shownVal(b), shownState(got), shownState(want))
				}
			}
		}
	}
}
