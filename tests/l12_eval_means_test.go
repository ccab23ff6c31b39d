package tests

import (
	"fmt"
	"math/big"
	"math/rand"
	"slices"
	"strings"
	"testing"

	"loop.example/g00289/impl"
)

// The tests of this file work out by other means what Begin, BeginOut and Line
// tell: with names in maps, numbers of any size, patterns by their trees, and
// what goes wrong, or ends a line, as a panic.

type meantWrong int

type meantNext struct{}

type meant struct {
	vars  map[string]impl.Val
	cells map[string]map[string]impl.Val
	nr    int
	line  string
	out   string
	begun int
}

// newMeant has what a state has, by names.
func newMeant(list []impl.Rule, s impl.State, line string) *meant {
	m := &meant{vars: map[string]impl.Val{}, cells: map[string]map[string]impl.Val{}, nr: s.Nr, line: line}
	vars, cells := impl.Names(list)
	for i, name := range vars {
		m.vars[name] = s.Vars[i]
	}
	for i, name := range cells {
		m.cells[name] = map[string]impl.Val{}
		for _, c := range s.Cells {
			if c.Name == i {
				m.cells[name][c.Key] = c.Val
			}
		}
	}
	return m
}

func (m *meant) state(list []impl.Rule) impl.State {
	s := impl.State{Nr: m.nr}
	vars, cells := impl.Names(list)
	for _, name := range vars {
		s.Vars = append(s.Vars, m.vars[name])
	}
	for i, name := range cells {
		var keys []string
		for key := range m.cells[name] {
			keys = append(keys, key)
		}
		slices.Sort(keys)
		for _, key := range keys {
			s.Cells = append(s.Cells, cellOf(i, key, m.cells[name][key]))
		}
	}
	return s
}

func (m *meant) begin() {
	if m.begun++; m.begun > 3000 {
		panic(meantWrong(impl.ErFuel))
	}
}

func yesNo(yes bool) impl.Val { return map[bool]impl.Val{true: valNum(one), false: valNum(0)}[yes] }

func bigVal(n *big.Int) impl.Val {
	if n.CmpAbs(big.NewInt(top)) > 0 {
		panic(meantWrong(impl.ErNum))
	}
	return valNum(int(n.Int64()))
}

func textOrLong(s string) impl.Val {
	if len(s) > 300 {
		panic(meantWrong(impl.ErLong))
	}
	return valText(s)
}

func numbersMeant(op int, a int, b int) impl.Val {
	x, y, million, made := big.NewInt(int64(a)), big.NewInt(int64(b)), big.NewInt(one), new(big.Int)
	if b == 0 && (op == impl.NdDiv || op == impl.NdMod) {
		panic(meantWrong(impl.ErZero))
	}
	switch op {
	case impl.NdAdd:
		return bigVal(made.Add(x, y))
	case impl.NdSub:
		return bigVal(made.Sub(x, y))
	case impl.NdMul:
		return bigVal(made.Quo(made.Mul(x, y), million))
	case impl.NdDiv:
		return bigVal(made.Quo(made.Mul(x, million), y))
	}
	// What is left when y is taken away as often as the whole quotient tells.
	return bigVal(made.Sub(x, made.Mul(y, new(big.Int).Quo(x, y))))
}

func orderMeant(op int, a impl.Val, b impl.Val) impl.Val {
	order := orderOfNumbers(byNum(a), byNum(b))
	if a.Kind == impl.VlText || b.Kind == impl.VlText {
		order = orderOfTexts(byText(a), byText(b))
	}
	return yesNo(map[int]bool{impl.NdLess: order < 0, impl.NdMost: !(order > 0), impl.NdMore: order > 0, impl.NdLeast: !(order < 0), impl.NdSame: order == 0, impl.NdOther: order != 0}[op])
}

func fitsMeant(pattern string, s string) impl.Val {
	r, _ := impl.RexParse(pattern)
	for at := 0; at <= len(s); at++ {
		if len(impl.MatchTree(r, s, at)) > 0 {
			return yesNo(true)
		}
	}
	return yesNo(false)
}

func wholeMeant(v impl.Val) int { return byNum(v) / one }

func callMeant(name string, list []impl.Val) impl.Val {
	s := byText(list[0])
	var made strings.Builder
	for place := 1; place <= len(s); place++ {
		b := s[place-1]
		switch {
		case name == "upper" && b >= 'a' && b <= 'z':
			b -= 32
		case name == "lower" && b >= 'A' && b <= 'Z':
			b += 32
		case name == "index" && strings.HasPrefix(s[place-1:], byText(list[1])):
			return valNum(place * one)
		case name == "substr" && (place < wholeMeant(list[1]) || len(list) == 3 && place > wholeMeant(list[1])+wholeMeant(list[2])-1):
			continue
		}
		made.WriteByte(b)
	}
	switch name {
	case "length":
		return valNum(len(s) * one)
	case "int":
		return valNum(wholeMeant(list[0]) * one)
	case "index":
		return yesNo(s == "" && byText(list[1]) == "")
	}
	return valText(made.String())
}

func (m *meant) fieldMeant(n int) impl.Val {
	if n == 0 {
		return impl.Read(m.line)
	}
	if list := fieldsBySplit(m.line); n > 0 && n <= len(list) {
		return impl.Read(list[n-1])
	}
	return valText("")
}

func (m *meant) e(n impl.Node) impl.Val {
	m.begin()
	switch n.Op {
	case impl.NdNum:
		return valNum(n.N)
	case impl.NdText:
		return textOrLong(n.S)
	case impl.NdRex:
		return fitsMeant(n.S, m.line)
	case impl.NdVar:
		return m.vars[n.S]
	case impl.NdCell:
		return m.cells[n.S][byText(m.e(n.Kids[0]))]
	case impl.NdField:
		return m.fieldMeant(wholeMeant(m.e(n.Kids[0])))
	case impl.NdNr:
		return valNum(m.nr * one)
	case impl.NdNf:
		return valNum(len(fieldsBySplit(m.line)) * one)
	case impl.NdFits:
		return fitsMeant(n.Kids[1].S, byText(m.e(n.Kids[0])))
	case impl.NdNot:
		return yesNo(!likeTrue(m.e(n.Kids[0])))
	case impl.NdMinus:
		return valNum(0 - byNum(m.e(n.Kids[0])))
	case impl.NdAnd, impl.NdOr:
		if first := likeTrue(m.e(n.Kids[0])); first == (n.Op == impl.NdOr) {
			return yesNo(first)
		}
		return yesNo(likeTrue(m.e(n.Kids[1])))
	case impl.NdSet, impl.NdPlus:
		return m.setMeant(n)
	}
	var kids []impl.Val
	for _, kid := range n.Kids {
		kids = append(kids, m.e(kid))
	}
	switch {
	case n.Op <= impl.NdMod:
		return numbersMeant(n.Op, byNum(kids[0]), byNum(kids[1]))
	case n.Op == impl.NdCat:
		return textOrLong(byText(kids[0]) + byText(kids[1]))
	case n.Op <= impl.NdOther:
		return orderMeant(n.Op, kids[0], kids[1])
	}
	return callMeant(n.S, kids)
}

func (m *meant) setMeant(n impl.Node) impl.Val {
	to := n.Kids[0]
	where, key := m.vars, to.S
	if to.Op == impl.NdCell {
		where, key = m.cells[to.S], byText(m.e(to.Kids[0]))
	}
	v := m.e(n.Kids[1])
	if n.Op == impl.NdPlus {
		v = numbersMeant(impl.NdAdd, byNum(where[key]), byNum(v))
	}
	where[key] = v
	count := 0
	for _, list := range m.cells {
		count += len(list)
	}
	if count > 40 {
		panic(meantWrong(impl.ErRoom))
	}
	return v
}

func (m *meant) put(s string) {
	if m.out += s; len(m.out) > 600 {
		panic(meantWrong(impl.ErOut))
	}
}

func (m *meant) body(n impl.Node) {
	for _, kid := range n.Kids {
		m.statement(kid)
	}
}

func (m *meant) statement(n impl.Node) {
	m.begin()
	switch n.Op {
	case impl.NdBlock:
		m.body(n)
	case impl.NdPrint:
		for i, kid := range n.Kids {
			text := byText(m.e(kid))
			m.put(strings.Repeat(" ", min(i, 1)) + text)
		}
		if len(n.Kids) == 0 {
			m.put(m.line[:min(300, len(m.line))])
		}
		m.put("\n")
	case impl.NdIf:
		if likeTrue(m.e(n.Kids[0])) {
			m.body(n.Kids[1])
		} else if len(n.Kids) == 3 {
			m.body(n.Kids[2])
		}
	case impl.NdWhile:
		for likeTrue(m.e(n.Kids[0])) {
			m.body(n.Kids[1])
		}
	case impl.NdNext:
		panic(meantNext{})
	case impl.NdDrop:
		delete(m.cells[n.S], byText(m.e(n.Kids[0])))
	case impl.NdDo:
		m.e(n.Kids[0])
	}
}

// ranMeant is the state behind a run from s on, and what it puts out.
func ranMeant(list []impl.Rule, s impl.State, line string, run func(m *meant)) (after impl.State, out string) {
	m := newMeant(list, s, line)
	defer func() {
		switch why := recover().(type) {
		case nil, meantNext:
			after, out = m.state(list), m.out
		case meantWrong:
			after, out = s, ""
			after.Err = int(why)
		default:
			panic(why)
		}
	}()
	run(m)
	return
}

func beginMeant(list []impl.Rule) (impl.State, string) {
	vars, _ := impl.Names(list)
	return ranMeant(list, impl.State{Vars: make([]impl.Val, len(vars))}, "", func(m *meant) {
		if len(list) > 0 && list[0].Kind == impl.RlBegin {
			m.body(list[0].Body)
		}
	})
}

func lineMeant(list []impl.Rule, s impl.State, line string) (impl.State, string) {
	if s.Err != impl.ErNone {
		return s, ""
	}
	return ranMeant(list, s, line, func(m *meant) {
		if m.nr++; m.nr > 1000000 {
			panic(meantWrong(impl.ErNum))
		}
		for _, r := range list {
			if r.Kind == impl.RlAll || r.Kind == impl.RlSome && likeTrue(m.e(r.Pat)) {
				m.body(r.Body)
			}
		}
	})
}

// checkMeant asks for what the other means tell, of BEGIN and of some lines, and
// counts with which Err they end.
func checkMeant(t *testing.T, list []impl.Rule, lines []string, codes map[int]int) {
	t.Helper()
	want, text := beginMeant(list)
	got, out := impl.Begin(list), impl.BeginOut(list)
	if !sameState(got, want) || out != text {
		t.Fatalf("Begin of %.900s\nis %s, %q; want %s, %q", impl.Write(list), shownState(got), out, shownState(want), text)
	}
	codes[got.Err]++
	for i, line := range lines {
		want, text = lineMeant(list, got, line)
		next, out := lineOf(t, list, got, line)
		if !sameState(next, want) || out != text {
			t.Fatalf("%.900s\nline %d, %q, from %s\nis %s, %q\nwant %s, %q", impl.Write(list), i, line, shownState(got), shownState(next), out, shownState(want), text)
		}
		got = next
		codes[got.Err]++
	}
}

// lively makes programs most of which do something, and some of which go wrong.
type lively struct {
	chance *rand.Rand
	begin  bool
	loops  int
}

func (l *lively) leaf() impl.Node {
	c := l.chance
	fields := []impl.Node{ndOf(impl.NdNr), ndOf(impl.NdNf), ndOf(impl.NdField, ndNum(c.Intn(4)*one)), ndOf(impl.NdField, someOf(c, ndVar("a"), ndOf(impl.NdNf), ndNum(one/2))), ndRex(someOf(c, "a", "^a", "1*$", "[0-9]", "a|b", ""))}
	if k := c.Intn(12); k < 4 && !l.begin {
		return someOf(c, fields...)
	} else if k < 7 {
		return ndNum(someOf(c, 0, one, one, 2*one, 3*one, 10*one, one/2, 1, 1500000, 3000*one, top, top-one))
	} else if k < 9 {
		return ndText(someOf(c, "", "a", "ab", "B", "10", "9", " 2x", "-1.5", "+.5", "Zz", strings.Repeat("x", someOf(c, 3, 20, 100, 150, 299, 300, 301))))
	}
	return ndVar(someOf(c, "a", "b", "c", "d"))
}

func (l *lively) cell(room int) impl.Node {
	return ndNamed(impl.NdCell, someOf(l.chance, "A", "B"), l.e(room-1))
}

func (l *lively) e(room int) impl.Node {
	c := l.chance
	if room <= 1 || c.Intn(3) == 0 {
		return l.leaf()
	}
	switch k := c.Intn(20); {
	case k < 7:
		return twoOf(impl.NdAdd+c.Intn(impl.NdOther-impl.NdAdd+1), l.e(room-1), l.e(room-1))
	case k < 8:
		return twoOf(impl.NdFits, l.e(room-1), ndRex(someOf(c, "a", "^[0-9.]+$", "x*", "^$", "(a|1)+b?")))
	case k < 9:
		return ndOf(someOf(c, impl.NdNot, impl.NdMinus), l.e(room-1))
	case k < 11:
		return twoOf(someOf(c, impl.NdAnd, impl.NdOr), l.e(room-1), l.e(room-1))
	case k < 13:
		return l.cell(room)
	case k < 16:
		return twoOf(someOf(c, impl.NdSet, impl.NdPlus), someOf(c, ndVar("a"), ndVar("b"), ndVar("c"), l.cell(room)), l.e(room-1))
	case k < 17 && !l.begin:
		return ndOf(impl.NdField, l.e(room-1))
	}
	name := someOf(c, "length", "int", "upper", "lower", "index", "substr", "substr")
	n := ndNamed(impl.NdCall, name, l.e(room-1))
	for range map[string]int{"index": 1, "substr": 1 + c.Intn(2)}[name] {
		n.Kids = append(n.Kids, l.e(room-1))
	}
	return n
}

// loop counts up to a number, or goes on for ever, over a var of its own.
func (l *lively) loop(room int) impl.Node {
	c := l.chance
	counter := ndVar(string(rune('i' + l.loops%3)))
	l.loops++
	step := ndOf(impl.NdDo, twoOf(impl.NdPlus, counter, ndNum(someOf(c, one, one, one, 0))))
	body := l.block(room - 1)
	body.Kids = append(body.Kids, step)
	if c.Intn(3) == 0 {
		body.Kids = append(body.Kids, ndOf(impl.NdDo, twoOf(impl.NdSet, ndNamed(impl.NdCell, "A", counter), l.e(room-1))))
	}
	return ndOf(impl.NdWhile, twoOf(impl.NdLess, counter, ndNum(someOf(c, 1, 3, 7, 30, 60, 300)*one)), body)
}

func (l *lively) statement(room int) impl.Node {
	c := l.chance
	if room <= 2 {
		return ndOf(impl.NdDo, l.e(room))
	}
	switch k := c.Intn(16); {
	case k < 5:
		n := ndOf(impl.NdPrint)
		for range someOf(c, 0, 1, 1, 2, 2, 3) {
			n.Kids = append(n.Kids, l.e(room-1))
		}
		return n
	case k < 7:
		n := ndOf(impl.NdIf, l.e(room-1), l.block(room-1))
		if c.Intn(2) == 0 {
			n.Kids = append(n.Kids, l.block(room-1))
		}
		return n
	case k < 8:
		return l.loop(room)
	case k < 9:
		return ndNamed(impl.NdDrop, someOf(c, "A", "B"), l.e(room-1))
	case k < 10:
		return l.block(room - 1)
	case k == 10 && !l.begin:
		return ndOf(impl.NdNext)
	}
	return ndOf(impl.NdDo, twoOf(someOf(c, impl.NdSet, impl.NdPlus), someOf(c, ndVar("a"), ndVar("b"), ndVar("c"), l.cell(room)), l.e(room-1)))
}

func (l *lively) block(room int) impl.Node {
	n := ndBlock()
	for range l.chance.Intn(4) {
		n.Kids = append(n.Kids, l.statement(room-1))
	}
	return n
}

func (l *lively) program() []impl.Rule {
	var list []impl.Rule
	if l.chance.Intn(3) == 0 {
		l.begin = true
		list = append(list, impl.Rule{Kind: impl.RlBegin, Body: l.block(8)})
		l.begin = false
	}
	for range 1 + l.chance.Intn(3) {
		r := impl.Rule{Kind: impl.RlAll, Body: l.block(8)}
		if l.chance.Intn(2) == 0 {
			r.Kind, r.Pat = impl.RlSome, l.e(3)
		}
		list = append(list, r)
	}
	return list
}

func linesByChance(chance *rand.Rand) []string {
	var list []string
	for range 1 + chance.Intn(5) {
		list = append(list, someOf(chance, fewBytes(chance, "a b1 .-A0 ", 14), fmt.Sprint(chance.Intn(20), " ", chance.Intn(5)-2), "a", "", "x 1 2.50 y", strings.Repeat("ab ", 110)))
	}
	return list
}

func TestLineByChance(t *testing.T) {
	chance := rand.New(rand.NewSource(120))
	codes := map[int]int{}
	for range 8000 {
		list := (&lively{chance: chance}).program()
		if code := impl.Check(list); code != impl.CkDone {
			t.Fatalf("Check of %s tells %d", shownRules(list), code)
		}
		checkMeant(t, list, linesByChance(chance), codes)
	}
	for code := impl.ErNone; code < impl.ErStack; code++ {
		if codes[code] < 150 {
			t.Errorf("Err %d came %d times: %v", code, codes[code], codes)
		}
	}
}

// TestLineOfAnyTrees is of trees of any kind, and of such as may not run.
func TestLineOfAnyTrees(t *testing.T) {
	chance := rand.New(rand.NewSource(122))
	codes := map[int]int{}
	for range 6000 {
		list := likelyProgram(chance)
		if impl.Check(list) == impl.CkDone {
			checkMeant(t, list, linesByChance(chance), codes)
			continue
		}
		s := someOf(chance, append(rightStates(), wrongStates()...)...).s
		got, out := impl.Line(list, s, "a line")
		checkState(t, "Line of what may not run", got, s)
		checkState(t, "Begin of what may not run", impl.Begin(list), impl.State{Err: impl.ErStack})
		if out+impl.BeginOut(list) != "" {
			t.Errorf("what may not run puts out %q", out)
		}
		codes[-1]++
	}
	if codes[impl.ErNone] < 300 || codes[-1] < 1000 {
		t.Errorf("%v", codes)
	}
}

// TestLinePairs is each op between two values of all kinds, some of all pairs.
func TestLinePairs(t *testing.T) {
	chance := rand.New(rand.NewSource(123))
	vals := slices.DeleteFunc(append(rightVals(), gridVals()...), func(v impl.Val) bool { return !rightVal(v) })
	var rules []impl.Rule
	for op := impl.NdAdd; op <= impl.NdOther; op++ {
		rules = append(rules, doRule(twoOf(impl.NdSet, ndVar("z"), twoOf(op, ndVar("x"), ndVar("y")))))
	}
	for _, kid := range []impl.Node{twoOf(impl.NdAnd, ndVar("x"), ndVar("y")), twoOf(impl.NdOr, ndVar("x"), ndVar("y")), ndNamed(impl.NdCall, "index", ndVar("x"), ndVar("y")), ndNamed(impl.NdCall, "substr", ndVar("x"), ndVar("y")), ndNamed(impl.NdCall, "substr", ndText("abc"), ndVar("x"), ndVar("y")), twoOf(impl.NdPlus, ndVar("x"), ndVar("y")), twoOf(impl.NdSet, ndNamed(impl.NdCell, "A", ndVar("x")), ndVar("y"))} {
		rules = append(rules, doRule(twoOf(impl.NdSet, ndVar("z"), kid)))
	}
	codes := map[int]int{}
	for _, r := range rules {
		list := []impl.Rule{r, {Kind: impl.RlSome, Pat: ndNum(0), Body: ndBlock(ndOf(impl.NdPrint, ndVar("x"), ndVar("y"), ndVar("z")))}}
		for _, a := range vals {
			for _, b := range vals {
				if chance.Intn(8) > 0 {
					continue
				}
				s := impl.State{Vars: []impl.Val{a, b, valText("was")}}
				want, _ := lineMeant(list, s, "")
				got, _ := lineOf(t, list, s, "")
				if !sameState(got, want) {
					t.Fatalf("%s with %s, %s is %s, want %s", impl.Write(list), shownVal(a), shownVal(b), shownState(got), shownState(want))
				}
				codes[got.Err]++
			}
		}
	}
	for code := impl.ErNone; code <= impl.ErLong; code++ {
		if codes[code] < 20 {
			t.Errorf("%v", codes)
		}
	}
}
