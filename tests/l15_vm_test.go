package tests

import (
	"fmt"
	"math"
	"slices"
	"strconv"
	"strings"
	"testing"

	"loop.example/g00289/impl"
)

// opFrom is the place that has such a text: a name, its N, its S in brackets.
func opFrom(text string) impl.Op {
	name, rest, _ := strings.Cut(text, " ")
	o := opN(ocNamed(name), 0)
	if tellsS(o.Code) {
		number, s, ok := strings.Cut(rest, "<")
		if !ok || !strings.HasSuffix(s, ">") {
			panic(text)
		}
		o.S, rest = strings.TrimSuffix(s, ">"), strings.TrimSpace(number)
	}
	if o.Code == impl.OcNum {
		n, ok := impl.DecLooks(rest)
		if !ok {
			panic(text)
		}
		o.N = n
	} else if tellsN(o.Code) {
		n, err := strconv.Atoi(rest)
		if err != nil {
			panic(text)
		}
		o.N = n
	}
	return o
}

// opsFrom are places with `, ` between.
func opsFrom(text string) []impl.Op {
	var list []impl.Op
	for _, part := range strings.Split(text, ", ") {
		if part != "" {
			list = append(list, opFrom(part))
		}
	}
	return list
}

// stackProg has eight vars and two lists.
func stackProg(start []impl.Op, main []impl.Op) impl.Prog {
	return impl.Prog{Vars: strings.Fields("a b c d e f g h"), Cells: []string{"A", "B"}, Start: ended(start...), Main: ended(main...)}
}

// stackState has something in four vars and in both lists; the other four vars
// are there to be set.
func stackState() impl.State {
	s := impl.State{Nr: 8, Vars: make([]impl.Val, 8)}
	copy(s.Vars, []impl.Val{num(5), valText("4 apples"), valLook(2500000, "2.50")})
	s.Cells = []impl.Cell{cellOf(0, "k", num(7)), cellOf(0, "z", valText("zz")), cellOf(1, "k", valLook(3*one, "3"))}
	return s
}

const stackLine = "7  abc -2.5 10x"

// runOf is Run, and asks for what holds of each one.
func runOf(t *testing.T, p impl.Prog, s impl.State, line string) (impl.State, string) {
	t.Helper()
	checkProg(t, p, true)
	got, out := impl.Run(p, s, line)
	if !impl.StateOk(got, len(p.Vars), len(p.Cells)) {
		t.Errorf("the state behind %.80q is not right: %s", line, shownState(got))
	}
	if got.Err != impl.ErNone {
		s.Err = got.Err
		checkState(t, fmt.Sprintf("what went wrong at %.80q", line), got, s)
	} else if got.Nr != s.Nr+1 {
		t.Errorf("line %.80q behind %d is line %d", line, s.Nr, got.Nr)
	}
	if got.Err != impl.ErNone && out != "" || len(out) > impl.MaxOut {
		t.Errorf("line %.80q with Err %d puts out %q", line, got.Err, out)
	}
	return got, out
}

// checkRan asks for what places leave on the stack, the last one on top, above a
// value that was there ahead of them; and that there is nothing else on it. It
// tells the state behind them, but for the vars that are set to see that, and what
// is put out. Jumps count from the first of the places.
func checkRan(t *testing.T, line string, places string, left ...impl.Val) (impl.State, string) {
	t.Helper()
	left = append([]impl.Val{valText("under")}, left...)
	see := []impl.Op{}
	for i := range left {
		see = append(see, opN(impl.OcSetVar, 4+i), opN(impl.OcPop, 0))
	}
	list := glued(opsFrom("text <under>"), opsFrom(places), see)
	s, out := runOf(t, stackProg(nil, list), stackState(), line)
	if s.Err != impl.ErNone {
		t.Errorf("%.300s: Err %d", places, s.Err)
		return s, out
	}
	for i, v := range left {
		if got := s.Vars[4+len(left)-1-i]; got != v {
			t.Errorf("%.300s of line %.80q leaves %s at %d, want %s", places, line, shownVal(got), i, shownVal(v))
		}
	}
	if none, _ := runOf(t, stackProg(nil, glued(list, opsFrom("pop"))), stackState(), line); none.Err != impl.ErStack {
		t.Errorf("%.300s leaves more than %d values", places, len(left)-1)
	}
	for i := range left {
		s.Vars[4+i] = valNone
	}
	return s, out
}

// checkLeft is of places that turn nothing and put nothing out.
func checkLeft(t *testing.T, line string, places string, left ...impl.Val) {
	t.Helper()
	s, out := checkRan(t, line, places, left...)
	want := stackState()
	want.Nr++
	checkState(t, "behind "+places, s, want)
	if out != "" {
		t.Errorf("%.300s puts out %q", places, out)
	}
}

// checkTurned is of places that turn the state.
func checkTurned(t *testing.T, places string, turn func(s *impl.State), left ...impl.Val) {
	t.Helper()
	s, out := checkRan(t, stackLine, places, left...)
	want := stackState()
	want.Nr++
	turn(&want)
	checkState(t, "behind "+places, s, want)
	if out != "" {
		t.Errorf("%.300s puts out %q", places, out)
	}
}

// checkErr is of places of a line, and the same ones of a beginning, at which
// something goes wrong; behind sets, drops and prints.
func checkErr(t *testing.T, line string, places string, want int) {
	t.Helper()
	ahead := opsFrom("num 1, setvar 0, pop, num 1, plusvar 3, pop, text <n>, num 2, setcell 1, pop, text <k>, num 2, pluscell 0, pop, text <z>, drop 0, text <out>, show 0, endl")
	for _, list := range [][]impl.Op{opsFrom(places), glued(ahead, opsFrom(places)), glued(opsFrom(places), ahead)} {
		p := stackProg(list, list)
		if s, _ := runOf(t, p, stackState(), line); s.Err != want {
			t.Errorf("%.300s of line %.80q: Err %d, want %d", places, line, s.Err, want)
		}
		if line != "" {
			continue
		}
		s, out := impl.RunStart(p)
		checkState(t, "RunStart of what goes wrong", s, impl.State{Vars: make([]impl.Val, 8), Err: want})
		all, more := impl.RunAll(p, []string{"", "a"})
		checkState(t, "RunAll of what goes wrong", all, s)
		if out+more != "" {
			t.Errorf("%.300s puts out %q, %q", places, out, more)
		}
	}
}

func TestRunConstants(t *testing.T) {
	if impl.MaxStack != 64 || impl.MaxTicks != 20000 || impl.MaxRows != 300 {
		t.Error("limits")
	}
}

func TestRunLeaves(t *testing.T) {
	for places, want := range map[string]impl.Val{
		"num 5": num(5), "num 0": num(0), "num -2.5": num(-2.5), "num 0.000001": valNum(1), "num 9000000": valNum(top), "num -9000000": valNum(-top),
		"text <a b>": valText("a b"), "text <>": valText(""), "text <5>": valText("5"), "text <<a>>": valText("<a>"),
		"var 0": num(5), "var 1": valText("4 apples"), "var 2": valLook(2500000, "2.50"), "var 3": valNone, "var 7": valNone,
		"nr": num(9), "nf": num(4),
		"line <b>": num(1), "line <^7>": num(1), "line <^a>": num(0), "line <x$>": num(1), "line <7  abc>": num(1), "line <7 abc>": num(0), "line <>": num(1), "line <^$>": num(0),
	} {
		checkLeft(t, stackLine, places, want)
	}
	checkLeft(t, "", "line <^$>, nf, nr", num(1), num(0), num(9))
	checkLeft(t, stackLine, "")
	checkLeft(t, stackLine, "num 1, num 2, num 3", num(1), num(2), num(3))
	checkLeft(t, stackLine, "var 0, var 1, text <x>", num(5), valText("4 apples"), valText("x"))
}

func TestRunCells(t *testing.T) {
	for places, want := range map[string]impl.Val{
		"text <k>, cell 0": num(7), "text <k>, cell 1": valLook(3*one, "3"), "text <z>, cell 0": valText("zz"), "text <z>, cell 1": valNone, "text <>, cell 0": valNone, "var 3, cell 0": valNone, "text <K>, cell 0": valNone,
	} {
		checkLeft(t, stackLine, places, want)
	}
	checkLeft(t, stackLine, "text <z>, text <k>, cell 1", valText("z"), valLook(3*one, "3"))
	checkLeft(t, "k", "num 1, field, cell 0", num(7))
}

func TestRunFields(t *testing.T) {
	for places, want := range map[string]impl.Val{
		"num 0, field": valText(stackLine), "num 1, field": valLook(7*one, "7"), "num 2, field": valText("abc"), "num 3, field": valLook(-2500000, "-2.5"), "num 4, field": valText("10x"), "num 5, field": valText(""),
		"num -1, field": valText(""), "num 0.9, field": valText(stackLine), "num -0.9, field": valText(stackLine), "num 1.9, field": valLook(7*one, "7"), "num 9000000, field": valText(""), "num -9000000, field": valText(""),
		"text <2x>, field": valText("abc"), "text <>, field": valText(stackLine), "var 3, field": valText(stackLine), "var 2, field": valText("abc"), "nf, field": valText("10x"), "num 1, field, field": valText(""),
	} {
		checkLeft(t, stackLine, places, want)
	}
	checkLeft(t, " 12 ", "num 0, field, num 1, field", valLook(12*one, " 12 "), valLook(12*one, "12"))
	long := strings.Repeat("a", 300)
	checkLeft(t, long+"b", "num 0, field, num 1, field, line <b$>", valText(long), valText(long), num(1))
	most := strings.Repeat("a ", 9000000)
	checkLeft(t, most, "nf", valNum(top))
	if s, _ := runOf(t, stackProg(nil, opsFrom("nf")), stackState(), most+"a"); s.Err != impl.ErNum {
		t.Errorf("more fields than a number may tell: %s", shownState(s))
	}
}

// TestRunPairs: the one that was put first is the first one.
func TestRunPairs(t *testing.T) {
	for places, want := range map[string]impl.Val{
		"num 7, num 2, add": num(9), "num 7, num 2, sub": num(5), "num 2, num 7, sub": num(-5), "num 7, num 2, mul": num(14), "num 7, num 2, div": num(3.5), "num 2, num 8, div": num(0.25), "num 7, num 2, mod": num(1), "num 2, num 7, mod": num(2),
		"num -7, num 2, mod": num(-1), "num 7, num -2, mod": num(1), "num 5.5, num 2, mod": num(1.5), "num 2, num 3, div": num(0.666666), "num -2, num 3, div": num(-0.666666),
		"text <a>, text <b>, cat": valText("ab"), "text <b>, text <a>, cat": valText("ba"), "num 1, num 2, cat": valText("12"), "var 2, num -1, cat": valText("2.50-1"), "var 3, var 3, cat": valText(""),
		"num 2, num 7, less": num(1), "num 7, num 2, less": num(0), "num 7, num 7, less": num(0), "num 2, num 7, most": num(1), "num 7, num 2, most": num(0), "num 7, num 7, most": num(1),
		"num 2, num 7, more": num(0), "num 7, num 2, more": num(1), "num 7, num 7, more": num(0), "num 2, num 7, least": num(0), "num 7, num 2, least": num(1), "num 7, num 7, least": num(1),
		"num 2, num 7, same": num(0), "num 7, num 2, same": num(0), "num 7, num 7, same": num(1), "num 2, num 7, other": num(1), "num 7, num 2, other": num(1), "num 7, num 7, other": num(0),
		"num 10, num 9, less": num(0), "text <10>, num 9, less": num(1), "num 10, text <9>, less": num(1), "var 2, num 2.5, same": num(1), "var 2, text <2.5>, same": num(0), "var 3, num 0, same": num(1), "var 3, text <>, same": num(1),
		"text <4 x>, text <3>, add": num(7), "var 1, var 2, sub": num(1.5), "var 2, var 1, sub": num(-1.5), "var 3, num 1, sub": num(-1),
	} {
		checkLeft(t, stackLine, places, want)
	}
	checkLeft(t, stackLine, "num 100, num 7, num 2, sub", num(100), num(5))
	checkLeft(t, stackLine, "num 7, num 2, num 1, sub, sub", num(6))
	checkLeft(t, stackLine, "num 7, num 2, sub, num 1, sub", num(4))
	for places, want := range map[string]int{
		"num 9000000, num 0.000001, add": impl.ErNum, "num -9000000, num 0.000001, sub": impl.ErNum, "num 3000, num 3000.001, mul": impl.ErNum, "num 9000000, num 0.5, div": impl.ErNum, "num 1, num 0, div": impl.ErZero, "num 0, num 0, div": impl.ErZero, "num 1, num 0, mod": impl.ErZero,
		"num 1, text <x>, div": impl.ErZero, "num 1, text <>, mod": impl.ErZero, "num 1, num 0, div, num 9000000, num 9, mul": impl.ErZero, "num 9000000, num 9, mul, num 1, num 0, div": impl.ErNum,
		"text <" + strings.Repeat("a", 300) + ">, num 1, cat": impl.ErLong, "text <" + strings.Repeat("a", 150) + ">, text <" + strings.Repeat("b", 151) + ">, cat": impl.ErLong,
	} {
		checkErr(t, "", places, want)
		checkErr(t, stackLine, places, want)
	}
	checkLeft(t, stackLine, "num 8999999, num 1, add", valNum(top))
	checkLeft(t, stackLine, "text <"+strings.Repeat("a", 150)+">, text <"+strings.Repeat("b", 150)+">, cat", valText(strings.Repeat("a", 150)+strings.Repeat("b", 150)))
}

func TestRunOnes(t *testing.T) {
	for places, want := range map[string]impl.Val{
		"text <abc>, fits <b>": num(1), "text <abc>, fits <d>": num(0), "text <>, fits <^$>": num(1), "num 1.50, fits <^1.5$>": num(1), "var 2, fits <0$>": num(1), "var 3, fits <^$>": num(1), "text <q>, fits <7>": num(0),
		"num 5, not": num(0), "num 0, not": num(1), "text <>, not": num(1), "text <0>, not": num(0), "var 3, not": num(1), "var 2, not": num(0), "num -1, not": num(0),
		"num 5, bool": num(1), "num 0, bool": num(0), "text <>, bool": num(0), "text <0>, bool": num(1), "var 3, bool": num(0), "var 2, bool": num(1), "num -1, bool": num(1), "num 0.000001, bool": num(1),
		"num 5, minus": num(-5), "num 0, minus": num(0), "num -2.5, minus": num(2.5), "text <3x>, minus": num(-3), "var 3, minus": num(0), "var 2, minus": num(-2.5), "num 9000000, minus": valNum(-top), "num -9000000, minus": valNum(top),
		"num 1, field, bool": num(1), "num 5, field, bool": num(0),
	} {
		checkLeft(t, stackLine, places, want)
	}
	checkLeft(t, "0", "num 1, field, bool, num 1, field, not", num(0), num(1))
	checkLeft(t, stackLine, "num 1, num 0, not", num(1), num(1))
}

func withVar(name int, v impl.Val) func(s *impl.State) {
	return func(s *impl.State) { s.Vars[name] = v }
}

func withCell(at int, v impl.Val) func(s *impl.State) {
	return func(s *impl.State) { s.Cells[at].Val = v }
}

// TestRunSets: the value stays on the stack, and the key does not.
func TestRunSets(t *testing.T) {
	checkTurned(t, "num 2, setvar 0", withVar(0, num(2)), num(2))
	checkTurned(t, "text <t>, setvar 3", withVar(3, valText("t")), valText("t"))
	checkTurned(t, "var 2, setvar 3", withVar(3, valLook(2500000, "2.50")), valLook(2500000, "2.50"))
	checkTurned(t, "var 3, setvar 0", withVar(0, valNone), valNone)
	checkTurned(t, "num 1, num 2, setvar 0", withVar(0, num(2)), num(1), num(2))
	checkTurned(t, "num 2, plusvar 0", withVar(0, num(7)), num(7))
	checkTurned(t, "num 2, plusvar 1", withVar(1, num(6)), num(6))
	checkTurned(t, "text <2x>, plusvar 2", withVar(2, num(4.5)), num(4.5))
	checkTurned(t, "var 3, plusvar 3", withVar(3, num(0)), num(0))
	checkTurned(t, "num 1, num -2, plusvar 0", withVar(0, num(3)), num(1), num(3))
	checkTurned(t, "var 0, num 2, plusvar 0, var 0", withVar(0, num(7)), num(5), num(7), num(7))
	checkTurned(t, "text <k>, num 2, setcell 0", withCell(0, num(2)), num(2))
	checkTurned(t, "text <k>, text <z>, setcell 0", withCell(0, valText("z")), valText("z"))
	checkTurned(t, "text <k>, num 2, setcell 1", withCell(2, num(2)), num(2))
	checkTurned(t, "text <k>, var 3, setcell 1", withCell(2, valNone), valNone)
	checkTurned(t, "num 9, text <k>, var 2, setcell 1", withCell(2, valLook(2500000, "2.50")), num(9), valLook(2500000, "2.50"))
	checkTurned(t, "num 2, text <k>, setcell 1", func(s *impl.State) {
		s.Cells = slices.Insert(s.Cells, 2, cellOf(1, "2", valText("k")))
	}, valText("k"))
	checkTurned(t, "text <k>, num 2, pluscell 0", withCell(0, num(9)), num(9))
	checkTurned(t, "text <z>, num 2, pluscell 0", withCell(1, num(2)), num(2))
	checkTurned(t, "text <k>, text <2x>, pluscell 1", withCell(2, num(5)), num(5))
	checkTurned(t, "num 1, text <k>, num -10, pluscell 0", withCell(0, num(-3)), num(1), num(-3))
	checkTurned(t, "num 2, num 30, pluscell 0", func(s *impl.State) {
		s.Cells = slices.Insert(s.Cells, 0, cellOf(0, "2", num(30)))
	}, num(30))
	checkTurned(t, "var 3, num 1, setcell 0", func(s *impl.State) {
		s.Cells = slices.Insert(s.Cells, 0, cellOf(0, "", num(1)))
	}, num(1))
	for places, want := range map[string]int{
		"num 9000000, setvar 0, pop, num 1, plusvar 0": impl.ErNum, "num -9000000, setvar 0, pop, num -1, plusvar 0": impl.ErNum, "text <k>, num 9000000, setcell 0, pop, text <k>, num 1, pluscell 0": impl.ErNum,
	} {
		checkErr(t, "", places, want)
	}
}

func TestRunDrops(t *testing.T) {
	without := func(at int) func(s *impl.State) {
		return func(s *impl.State) { s.Cells = slices.Delete(s.Cells, at, at+1) }
	}
	checkTurned(t, "text <k>, drop 0", without(0))
	checkTurned(t, "text <z>, drop 0", without(1))
	checkTurned(t, "text <k>, drop 1", without(2))
	checkTurned(t, "text <z>, text <k>, drop 1", without(2), valText("z"))
	checkTurned(t, "text <k>, drop 0, text <k>, drop 0, text <k>, cell 0", without(0), valNone)
	checkLeft(t, stackLine, "text <z>, drop 1")
	checkLeft(t, stackLine, "text <>, drop 0")
	checkLeft(t, stackLine, "num 1, num 2, pop", num(1))
	checkLeft(t, stackLine, "num 1, num 2, pop, pop")
}

func TestRunCalls(t *testing.T) {
	for places, want := range map[string]impl.Val{
		"text <abc>, call 1 <length>": num(3), "text <>, call 1 <length>": num(0), "num 1.50, call 1 <length>": num(3), "var 3, call 1 <length>": num(0), "text <abc>, text <defgh>, call 2 <length>": num(3), "text <abc>, text <defgh>, num 1, call 3 <length>": num(3),
		"num -2.5, call 1 <int>": num(-2), "text <4.7x>, call 1 <int>": num(4), "num 2.5, num 7, call 2 <int>": num(2), "num 2.5, num 7, num 9, call 3 <int>": num(2),
		"text <aBz>, call 1 <upper>": valText("ABZ"), "text <aBz>, text <q>, call 2 <upper>": valText("ABZ"), "text <aBz>, text <q>, text <r>, call 3 <upper>": valText("ABZ"), "num 5, call 1 <upper>": valText("5"),
		"text <aBZ>, call 1 <lower>": valText("abz"), "text <aBZ>, text <Q>, call 2 <lower>": valText("abz"), "text <aBZ>, text <Q>, text <R>, call 3 <lower>": valText("abz"), "var 2, call 1 <lower>": valText("2.50"),
		"text <abcb>, text <b>, call 2 <index>": num(2), "text <b>, text <abcb>, call 2 <index>": num(0), "text <abc>, text <d>, call 2 <index>": num(0), "text <abcb>, text <b>, text <c>, call 3 <index>": num(2), "text <abc>, text <>, call 2 <index>": num(1),
		// A second value that is not there is nothing.
		"text <abc>, call 1 <index>": num(1), "text <>, call 1 <index>": num(1), "var 3, call 1 <index>": num(1), "num 7, call 1 <index>": num(1),
		"text <abcde>, call 1 <substr>": valText("abcde"), "text <>, call 1 <substr>": valText(""), "num 12, call 1 <substr>": valText("12"), "var 3, call 1 <substr>": valText(""),
		"text <abcde>, num 2, call 2 <substr>": valText("bcde"), "text <abcde>, num 0, call 2 <substr>": valText("abcde"), "text <abcde>, num -3, call 2 <substr>": valText("abcde"), "text <abcde>, num 6, call 2 <substr>": valText(""), "num 2, text <abcde>, call 2 <substr>": valText("2"),
		"text <abcde>, num 2, num 3, call 3 <substr>": valText("bcd"), "text <abcde>, num 3, num 2, call 3 <substr>": valText("cd"), "text <abcde>, num 0, num 2, call 3 <substr>": valText("a"), "text <abcde>, num 2, num 0, call 3 <substr>": valText(""), "text <abcde>, num 2, num -1, call 3 <substr>": valText(""), "text <abcde>, var 3, num 3, call 3 <substr>": valText("ab"), "text <abcde>, num 2.9, num 2.9, call 3 <substr>": valText("bc"),
	} {
		checkLeft(t, stackLine, places, want)
		checkLeft(t, "", "num 5, text <more>, "+places, num(5), valText("more"), want)
	}
	checkLeft(t, stackLine, "text <abc>, text <b>, call 1 <upper>", valText("abc"), valText("B"))
	checkLeft(t, stackLine, "text <xbc>, text <abc>, text <c>, call 2 <index>", valText("xbc"), num(3))
	checkLeft(t, stackLine, "text <abcde>, num 3, call 1 <substr>", valText("abcde"), valText("3"))
	checkLeft(t, stackLine, "text <abcde>, num 3, num 1, call 2 <substr>", valText("abcde"), valText("3"))
}

func TestRunJumps(t *testing.T) {
	checkLeft(t, stackLine, "jump 2, num 1, num 2", num(2))
	checkLeft(t, stackLine, "jump 1, num 1, num 2", num(1), num(2))
	checkLeft(t, stackLine, "jump 3, num 1, jump 5, num 2, jump 1", num(2), num(1))
	for _, c := range []struct {
		value string
		goes  bool
	}{
		{"num 0", true}, {"text <>", true}, {"var 3", true}, {"num 5, field", true}, {"num 1", false}, {"num -1", false}, {"num 0.000001", false}, {"text <0>", false}, {"text < >", false}, {"var 2", false}, {"num 1, field", false},
	} {
		at := len(opsFrom(c.value))
		left := []impl.Val{num(8)}
		if !c.goes {
			left = []impl.Val{num(7), num(8)}
		}
		checkLeft(t, stackLine, fmt.Sprintf("%s, zero %d, num 7, num 8", c.value, at+2), left...)
		checkLeft(t, stackLine, fmt.Sprintf("%s, zero %d, num 7, num 8", c.value, at+1), num(7), num(8))
	}
	// To the first place, with what is on the stack there now.
	checkRunsTo := func(places string, out string, code int) {
		t.Helper()
		s, got := runOf(t, stackProg(nil, opsFrom(places)), stackState(), "a")
		if s.Err != code || got != out {
			t.Errorf("%s: Err %d, %q; want %d, %q", places, s.Err, got, code, out)
		}
	}
	checkRunsTo("num 1, plusvar 3, show 0, var 3, num 3, less, zero 8, jump 0", "123", impl.ErNone)
	checkRunsTo("num 1, plusvar 3, show 0, var 3, num 3, least, zero 0, endl", "123\n", impl.ErNone)
	checkRunsTo("text <a>, show 0, jump 5, text <b>, show 0", "a", impl.ErNone)
	checkRunsTo("text <a>, show 0, num 0, zero 6, text <b>, show 0", "a", impl.ErNone)
	checkRunsTo("num 1, jump 0", "", impl.ErStack)
	checkRunsTo("jump 0", "", impl.ErFuel)
	checkRunsTo("num 0, zero 0", "", impl.ErFuel)
	checkRunsTo("jump 1", "", impl.ErNone)
	// As far as it may lead.
	far := append(slices.Repeat(opsFrom("jump 1499"), 1499), opN(impl.OcNext, 0))
	if s, _ := runOf(t, impl.Prog{Start: far, Main: far}, impl.State{}, ""); s.Err != impl.ErNone {
		t.Errorf("to the last place: %s", shownState(s))
	}
	far[1498] = opN(impl.OcJump, 0)
	far[0] = opN(impl.OcJump, 1498)
	if s, _ := runOf(t, impl.Prog{Start: far, Main: far}, impl.State{}, ""); s.Err != impl.ErFuel {
		t.Errorf("to the first place and back: %s", shownState(s))
	}
}

func TestRunShows(t *testing.T) {
	for places, want := range map[string]string{
		"text <a>, show 0": "a", "text <a>, show 1": " a", "endl": "\n", "endl, endl": "\n\n", "text <a>, show 0, text <b>, show 0": "ab", "text <a>, show 0, text <b>, show 1, endl": "a b\n", "num 2.50, show 0": "2.5", "var 2, show 0": "2.50", "var 3, show 0": "", "var 3, show 1": " ", "text <>, show 1, text <>, show 1": "  ", "num -1, show 1": " -1",
		"endl, text <a>, show 0": "\na", "num 0, field, show 0": stackLine, "text <\n>, show 0": "\n",
	} {
		s, out := checkRan(t, stackLine, places)
		next := stackState()
		next.Nr++
		if checkState(t, "behind "+places, s, next); out != want {
			t.Errorf("%s puts out %q, want %q", places, out, want)
		}
	}
	// The value on top is shown, and no more there.
	if _, out := checkRan(t, stackLine, "num 1, num 2, show 1", num(1)); out != " 2" {
		t.Errorf("%q", out)
	}
}

func TestRunNext(t *testing.T) {
	list := opsFrom("num 1, setvar 3, text <a>, show 0, next, text <b>, show 0, num 2, setvar 3, pop, pop, pop, pop")
	p := stackProg(list, list)
	want := stackState()
	want.Nr++
	want.Vars[3] = num(1)
	s, out := runOf(t, p, stackState(), "")
	if checkState(t, "behind next", s, want); out != "a" {
		t.Errorf("%q", out)
	}
	s, out = impl.RunStart(p)
	if checkState(t, "the beginning behind next", s, impl.State{Vars: []impl.Val{{}, {}, {}, num(1), {}, {}, {}, {}}}); out != "a" {
		t.Errorf("%q", out)
	}
	// A beginning that ends early is one all the same.
	s, out = impl.RunAll(p, []string{"", ""})
	if checkState(t, "all behind next", s, impl.State{Nr: 2, Vars: []impl.Val{{}, {}, {}, num(1), {}, {}, {}, {}}}); out != "aaa" {
		t.Errorf("%q", out)
	}
	// What is left on the stack is of no line.
	p = stackProg(opsFrom("num 1, num 2"), opsFrom("num 3, next, pop"))
	if s, out := impl.RunAll(p, []string{"", "", ""}); s.Err != impl.ErNone || s.Nr != 3 || out != "" {
		t.Errorf("%s, %q", shownState(s), out)
	}
	p = stackProg(opsFrom("num 1, num 2"), opsFrom("pop"))
	if s, _ := impl.RunAll(p, []string{""}); s.Err != impl.ErStack {
		t.Errorf("what a beginning left: %s", shownState(s))
	}
}

// takesAndLeaves says, by the name of a code, how many values it takes and leaves.
func takesAndLeaves(o impl.Op) (int, int) {
	name := " " + strings.Fields(codeNames)[o.Code-1] + " "
	switch {
	case name == " OcCall ":
		return o.N, 1
	case strings.Contains(" OcNum OcText OcVar OcNr OcNf OcLine ", name):
		return 0, 1
	case strings.Contains(" OcJump OcEndl OcNext ", name):
		return 0, 0
	case strings.Contains(" OcZero OcPop OcShow OcDrop ", name):
		return 1, 0
	case strings.Contains(" OcSetVar OcPlusVar OcCell OcField OcFits OcNot OcMinus OcBool ", name):
		return 1, 1
	}
	return 2, 1
}

// TestRunStackLimits is each place with as many values as it takes, one less and
// none; and with as many values as there may be.
func TestRunStackLimits(t *testing.T) {
	for _, c := range rightOps() {
		takes, leaves := takesAndLeaves(c.op)
		for _, have := range []int{0, 1, 2, 3, takes, takes + 1, 32, 62, 63, 64} {
			o := c.op
			if isJump(o) {
				o.N = have + 1
			}
			list := append(slices.Repeat(opsFrom("num 2"), have), o)
			// Room is asked for ahead of what else may be amiss with a text.
			want := impl.ErNone
			if have < takes || have-takes+leaves > 64 {
				want = impl.ErStack
			} else if o.Code == impl.OcText && len(o.S) > 300 {
				want = impl.ErLong
			}
			p := impl.Prog{Vars: []string{"a", "b"}, Cells: []string{"A", "B"}, Start: ended(list...), Main: ended(list...)}
			s, _ := runOf(t, p, impl.State{Vars: make([]impl.Val, 2)}, "a b")
			begun, _ := impl.RunStart(p)
			if s.Err != want || begun.Err != want {
				t.Errorf("%s with %d values: Err %d, %d; want %d", c.text, have, s.Err, begun.Err, want)
			}
			if want != impl.ErNone || o.Code == impl.OcNext {
				continue
			}
			// As many are there then as it must leave.
			rest := have - takes + leaves
			for more, code := range []int{impl.ErNone, impl.ErStack} {
				p.Main = ended(append(slices.Clone(list), slices.Repeat(opsFrom("pop"), rest+more)...)...)
				if s, _ := runOf(t, p, impl.State{Vars: make([]impl.Val, 2)}, "a b"); s.Err != code {
					t.Errorf("%s with %d values leaves other than %d", c.text, have, rest)
				}
			}
		}
	}
	checkErr(t, "", "pop", impl.ErStack)
	checkErr(t, "", "num 1, add", impl.ErStack)
	checkErr(t, "", strings.Repeat("num 1, ", 64)+"num 1", impl.ErStack)
	checkErr(t, "", strings.Repeat("num 1, ", 65)+strings.Repeat("pop, ", 65), impl.ErStack)
	checkErr(t, "", "add, num 1, num 0, div", impl.ErStack)
	checkErr(t, "", "num 1, num 0, div, pop, pop, pop", impl.ErZero)
	checkLeft(t, stackLine, strings.Repeat("num 1, ", 63)+strings.Repeat("add, ", 62), num(63))
}

func TestRunLongTexts(t *testing.T) {
	t300 := strings.Repeat("t", 300)
	checkLeft(t, "", "text <"+t300+">", valText(t300))
	checkErr(t, "", "text <"+t300+"t>", impl.ErLong)
	checkErr(t, "", "text <"+strings.Repeat("t", 5000)+">, pop", impl.ErLong)
	// It goes wrong when it is come to.
	checkLeft(t, "", "jump 2, text <"+t300+"t>, num 1", num(1))
	checkErr(t, "", "num 1, num 0, div, text <"+t300+"t>", impl.ErZero)
	checkErr(t, "", "text <"+t300+"t>, num 1, num 0, div", impl.ErLong)
	if s, _ := runOf(t, stackProg(nil, opsFrom("next, text <"+t300+"t>")), stackState(), ""); s.Err != impl.ErNone {
		t.Errorf("a long text behind next: %s", shownState(s))
	}
	// It is the key too.
	s, _ := checkRan(t, strings.Repeat("k", 301), "num 0, field, num 1, setcell 0", num(1))
	if got := impl.CellGet(s, 0, strings.Repeat("k", 300)); got != num(1) {
		t.Errorf("a long key: %s", shownState(s))
	}
}

// ticking goes over so many places, the last of which is an OcNext, or what is
// given in its place.
func ticking(count int, last ...impl.Op) []impl.Op {
	const passes = 3250
	list := opsFrom("num 1, plusvar 0, num 3250, less, zero 6, jump 0")
	pad := count - (6*(passes-1) + 5) - 1
	for i := range pad {
		list = append(list, opN(impl.OcJump, 7+i))
	}
	return ended(append(list, last...)...)
}

func TestRunTicks(t *testing.T) {
	long := opS(impl.OcText, strings.Repeat("t", 301))
	for _, c := range []struct {
		list []impl.Op
		want int
	}{
		{ticking(19999), impl.ErNone}, {ticking(20000), impl.ErNone}, {ticking(20001), impl.ErFuel}, {ticking(20002), impl.ErFuel},
		// What would go wrong at the last place that there is fuel for, and behind it.
		{ticking(20000, opN(impl.OcPop, 0)), impl.ErStack}, {ticking(20001, opN(impl.OcPop, 0)), impl.ErFuel}, {ticking(20000, long), impl.ErLong}, {ticking(20001, long), impl.ErFuel},
		{ticking(19999, opN(impl.OcEndl, 0)), impl.ErNone}, {ticking(20000, opN(impl.OcEndl, 0)), impl.ErFuel},
		{ended(opsFrom("jump 0")...), impl.ErFuel}, {ended(opsFrom("num 1, pop, jump 0")...), impl.ErFuel}, {ended(opsFrom("num 1, jump 0")...), impl.ErStack}, {ended(opsFrom("endl, jump 0")...), impl.ErOut}, {ended(opsFrom("num 1, plusvar 0, num 1, setcell 0, pop, jump 0")...), impl.ErRoom},
	} {
		p := impl.Prog{Vars: []string{"a"}, Cells: []string{"A"}, Start: ended(), Main: c.list}
		s, _ := runOf(t, p, impl.State{Vars: make([]impl.Val, 1)}, "")
		if s.Err != c.want {
			t.Errorf("%s: Err %d, want %d", shownOps(c.list), s.Err, c.want)
		}
		p.Start, p.Main = p.Main, p.Start
		if s, _ := impl.RunStart(p); s.Err != c.want {
			t.Errorf("the beginning of %s: Err %d, want %d", shownOps(c.list), s.Err, c.want)
		}
	}
	// Each line has its own.
	list := glued(opsFrom("num 0, setvar 0, pop"), ticking(19997))
	p := impl.Prog{Vars: []string{"a"}, Start: list, Main: list}
	if s, _ := impl.RunAll(p, make([]string, 20)); s.Err != impl.ErNone || s.Nr != 20 || s.Vars[0] != num(3250) {
		t.Errorf("20 lines of as many places as there may be: %s", shownState(s))
	}
	p.Main = glued(opsFrom("num 0, setvar 0, pop"), ticking(19998))
	if s, _ := impl.RunAll(p, make([]string, 20)); s.Err != impl.ErFuel || s.Nr != 0 || s.Vars[0] != num(3250) {
		t.Errorf("a line of one more: %s", shownState(s))
	}
}

// TestRunRoom: as many cells as there may be, of all lines.
func TestRunRoom(t *testing.T) {
	for _, set := range []string{"setcell", "pluscell"} {
		p := stackProg(nil, opsFrom("num 1, field, nr, "+set+" 0, pop"))
		s := impl.State{Vars: make([]impl.Val, 8)}
		for i := range impl.MaxCells {
			if s, _ = runOf(t, p, s, fmt.Sprintf("key%d", i)); s.Err != impl.ErNone {
				t.Fatalf("key %d: %s", i, shownState(s))
			}
		}
		if again, _ := runOf(t, p, s, "key7"); again.Err != impl.ErNone {
			t.Errorf("a key that is there: %s", shownState(again))
		}
		if full, _ := runOf(t, p, s, "key40"); full.Err != impl.ErRoom {
			t.Errorf("a key too many: %s", shownState(full))
		}
		other := stackProg(nil, opsFrom("num 1, field, nr, "+set+" 1, pop"))
		if full, _ := runOf(t, other, s, "key7"); full.Err != impl.ErRoom {
			t.Errorf("a key too many in the other list: %s", shownState(full))
		}
		dropped := stackProg(nil, opsFrom("text <key9>, drop 0, num 1, field, nr, "+set+" 1, pop"))
		if gone, _ := runOf(t, dropped, s, "key7"); gone.Err != impl.ErNone || len(gone.Cells) != impl.MaxCells {
			t.Errorf("one for another: %s", shownState(gone))
		}
		// What is asked for takes no room.
		asked := stackProg(nil, opsFrom("text <none>, cell 0, text <none>, drop 1"))
		if same, _ := runOf(t, asked, s, ""); same.Err != impl.ErNone || len(same.Cells) != impl.MaxCells {
			t.Errorf("asked for: %s", shownState(same))
		}
	}
	p := stackProg(nil, opsFrom("text <k00>, num 9000000, setcell 0, pop, text <k00>, num 1, pluscell 0"))
	if s, _ := runOf(t, p, impl.State{Vars: make([]impl.Val, 8), Cells: manyCells(40)}, ""); s.Err != impl.ErNum {
		t.Errorf("a sum in a full list: %s", shownState(s))
	}
}

func TestRunOutLimit(t *testing.T) {
	texts := func(sizes ...int) string {
		places := ""
		for _, size := range sizes {
			places += "text <" + strings.Repeat("o", size) + ">, show 0, "
		}
		return places
	}
	for _, places := range []string{texts(300, 300), texts(300, 299) + "endl, ", texts(300, 0) + "text <" + strings.Repeat("o", 299) + ">, show 1, ", texts(300, 298) + "endl, endl, ", texts(300, 299) + "var 3, show 1, ", strings.Repeat("endl, ", 600), texts(300, 299) + "num 5, show 0, "} {
		list := opsFrom(strings.TrimSuffix(places, ", "))
		p := stackProg(list, list)
		s, out := runOf(t, p, stackState(), "")
		if s.Err != impl.ErNone || len(out) != impl.MaxOut {
			t.Errorf("%.50s: Err %d, %d bytes", places, s.Err, len(out))
		}
		if s, out := impl.RunAll(p, []string{"", ""}); s.Err != impl.ErNone || len(out) != 3*impl.MaxOut {
			t.Errorf("%.50s of all lines: Err %d, %d bytes", places, s.Err, len(out))
		}
		for _, more := range []string{"endl", "num 1, show 0", "var 3, show 1", "text <a>, show 1"} {
			checkErr(t, "", places+more, impl.ErOut)
			checkErr(t, "", more+", "+strings.TrimSuffix(places, ", "), impl.ErOut)
		}
		if s, _ := runOf(t, stackProg(nil, glued(list, opsFrom("var 3, show 0, text <>, show 0"))), stackState(), ""); s.Err != impl.ErNone {
			t.Errorf("%.50s and nothing: Err %d", places, s.Err)
		}
	}
	checkErr(t, "", texts(300, 300)+"endl, num 1, num 0, div", impl.ErOut)
}

func TestRunNumber(t *testing.T) {
	p := stackProg(nil, opsFrom("nr, setvar 0, show 0, endl"))
	for _, nr := range []int{0, 1, 500000, 999998, 999999} {
		s := stackState()
		s.Nr = nr
		got, out := runOf(t, p, s, "a")
		s.Nr, s.Vars[0] = nr+1, valNum((nr+1)*one)
		if checkState(t, "a line", got, s); out != fmt.Sprintln(nr+1) {
			t.Errorf("line %d: %q", nr+1, out)
		}
	}
	for _, places := range []string{"nr, setvar 0, show 0, endl", "pop", "jump 0", "num 1, num 0, div", "", "text <" + strings.Repeat("t", 301) + ">"} {
		s := stackState()
		s.Nr = impl.MaxLines
		got, out := runOf(t, stackProg(nil, opsFrom(places)), s, "a")
		s.Err = impl.ErNum
		if checkState(t, "a line too many", got, s); out != "" {
			t.Errorf("a line too many puts out %q", out)
		}
	}
}

// TestRunStart: its line is empty and does not count.
func TestRunStart(t *testing.T) {
	for _, c := range []struct {
		start string
		out   string
		turn  func(s *impl.State)
	}{
		{"", "", func(s *impl.State) {}},
		{"nr, show 0, nf, show 1, num 0, field, show 1, num 1, field, show 1, line <^$>, show 1, endl", "0 0   1\n", func(s *impl.State) {}},
		{"num 2, setvar 1, pop, num 3, plusvar 1, pop", "", withVar(1, num(5))},
		{"num 0, field, setvar 0, pop", "", withVar(0, valText(""))},
		{"text <k>, num 2, setcell 1, pop, text <j>, num 1, pluscell 1", "", func(s *impl.State) {
			s.Cells = []impl.Cell{cellOf(1, "j", num(1)), cellOf(1, "k", num(2))}
		}},
	} {
		p := stackProg(opsFrom(c.start), opsFrom("text <line>, show 0"))
		want := impl.State{Vars: make([]impl.Val, 8)}
		c.turn(&want)
		s, out := impl.RunStart(p)
		if checkState(t, "RunStart of "+c.start, s, want); out != c.out {
			t.Errorf("RunStart of %s puts out %q, want %q", c.start, out, c.out)
		}
		s, out = impl.RunAll(p, nil)
		if checkState(t, "RunAll of "+c.start, s, want); out != c.out {
			t.Errorf("RunAll of %s puts out %q, want %q", c.start, out, c.out)
		}
	}
	for vars := range 9 {
		p := impl.Prog{Vars: strings.Fields("a b c d e f g h")[:vars], Start: ended(), Main: ended()}
		s, _ := impl.RunStart(p)
		checkState(t, "RunStart of names", s, impl.State{Vars: make([]impl.Val, vars)})
	}
}

// checkAll asks RunAll for what RunStart and Run of each line tell.
func checkAll(t *testing.T, p impl.Prog, lines []string) {
	t.Helper()
	want, text := impl.RunStart(p)
	for _, line := range lines[:min(300, len(lines))] {
		next, out := impl.Run(p, want, line)
		want, text = next, text+out
	}
	got, out := impl.RunAll(p, lines)
	checkState(t, fmt.Sprintf("RunAll of %d lines", len(lines)), got, want)
	if out != text {
		t.Errorf("RunAll of %d lines puts out %.200q, want %.200q", len(lines), out, text)
	}
}

func TestRunAll(t *testing.T) {
	p := built(t, "BEGIN { print \"begin\"; n = 10; } { n += 1; seen[$1] += 1; print NR, n, seen[$1], $0; } $1 == \"bad\" { print 1 / 0; }")
	s, out := impl.RunAll(p, []string{"a b", "", "a"})
	checkState(t, "three lines", s, impl.State{Nr: 3, Vars: []impl.Val{num(13)}, Cells: []impl.Cell{cellOf(0, "", num(1)), cellOf(0, "a", num(2))}})
	if out != "begin\n1 11 1 a b\n2 12 1 \n3 13 2 a\n" {
		t.Errorf("%q", out)
	}
	// What was put out ahead of a line that goes wrong stays, and nothing comes to it.
	s, out = impl.RunAll(p, []string{"a", "bad", "a", "b"})
	checkState(t, "a line that goes wrong", s, impl.State{Nr: 1, Vars: []impl.Val{num(11)}, Cells: []impl.Cell{cellOf(0, "a", num(1))}, Err: impl.ErZero})
	if out != "begin\n1 11 1 a\n" {
		t.Errorf("%q", out)
	}
	for _, lines := range [][]string{nil, {}, {""}, {"a"}, {"", "", ""}, {"a b", "b a", "a"}, {"bad"}, {"a", "bad", "c"}, {"a\nb", "\x00\xff"}} {
		checkAll(t, p, lines)
	}
}

func TestRunAllRows(t *testing.T) {
	p := built(t, "{ n += $1; print $1; }")
	lines := slices.Repeat([]string{"1"}, 1000)
	for _, count := range []int{0, 1, 2, 299, 300, 301, 302, 1000} {
		s, out := impl.RunAll(p, lines[:count])
		rows := min(count, 300)
		want := impl.State{Nr: rows, Vars: []impl.Val{num(float64(rows))}}
		if rows == 0 {
			want.Vars[0] = valNone
		}
		checkState(t, fmt.Sprintf("%d lines", count), s, want)
		if out != strings.Repeat("1\n", rows) {
			t.Errorf("%d lines put out %d bytes", count, len(out))
		}
		checkAll(t, p, lines[:count])
	}
	// The first ones are taken, and what stands behind them is not looked at.
	for at := range 310 {
		some := slices.Repeat([]string{"1"}, 310)
		some[at] = "2"
		want := 300
		if at < 300 {
			want = 301
		}
		if s, _ := impl.RunAll(p, some); s.Vars[0] != num(float64(want)) {
			t.Errorf("the line %d: %s", at, shownState(s))
		}
	}
	// As much as all of them may put out.
	p = stackProg(slices.Repeat(opsFrom("endl"), 600), slices.Repeat(opsFrom("endl"), 600))
	if s, out := impl.RunAll(p, lines); s.Err != impl.ErNone || s.Nr != 300 || out != strings.Repeat("\n", 301*600) {
		t.Errorf("%s, %d bytes", shownState(s), len(out))
	}
}

// wrongProgs are no programs, each in a way of its own, with places of which
// something would be seen.
func wrongProgs() []impl.Prog {
	seen := opsFrom("text <seen>, show 0, num 5, setvar 0, pop, text <k>, num 1, setcell 0, pop")
	right := func() impl.Prog {
		return impl.Prog{Vars: []string{"a", "b"}, Cells: []string{"A", "B"}, Start: ended(seen...), Main: ended(seen...)}
	}
	list := []impl.Prog{{}, {Start: ended()}, {Main: ended()}}
	turns := []func(p *impl.Prog){
		func(p *impl.Prog) { p.Vars = []string{"b", "a"} }, func(p *impl.Prog) { p.Vars = []string{"a", "a"} }, func(p *impl.Prog) { p.Vars = []string{"A", "b"} }, func(p *impl.Prog) { p.Vars = []string{"", "b"} }, func(p *impl.Prog) { p.Vars = []string{"a", "if"} },
		func(p *impl.Prog) { p.Vars = strings.Fields("a b c d e f g h i") }, func(p *impl.Prog) { p.Cells = strings.Fields("A B C D E F G H I") }, func(p *impl.Prog) { p.Cells = []string{"B", "A"} }, func(p *impl.Prog) { p.Cells = []string{"A", "a1"} }, func(p *impl.Prog) { p.Vars = nil }, func(p *impl.Prog) { p.Cells = nil },
	}
	for _, o := range []impl.Op{{}, opN(37, 0), opN(-1, 0), opN(impl.OcNum, top+1), opN(impl.OcVar, 2), opN(impl.OcSetVar, -1), opN(impl.OcPlusCell, 2), opN(impl.OcDrop, -1), opS(impl.OcFits, "("), opS(impl.OcLine, "*"), opOf(impl.OcCall, 0, "int"), opOf(impl.OcCall, 4, "int"), opOf(impl.OcCall, 1, "x"), opN(impl.OcShow, 2), opN(impl.OcJump, -1), opN(impl.OcZero, 2000), opN(impl.OcAdd, 1), opS(impl.OcPop, "a"), opN(impl.OcNext, 1), opN(math.MaxInt, math.MinInt)} {
		// Behind an OcNext too, where it would not be come to.
		turns = append(turns, func(p *impl.Prog) { p.Main = ended(append(p.Main, o)...) }, func(p *impl.Prog) { p.Start = ended(append(p.Start, o)...) }, func(p *impl.Prog) { p.Main = append([]impl.Op{o}, p.Main...) })
	}
	for _, turn := range append(turns,
		func(p *impl.Prog) { p.Start = nil }, func(p *impl.Prog) { p.Main = nil }, func(p *impl.Prog) { p.Start = p.Start[:3] }, func(p *impl.Prog) { p.Main = p.Main[:3] },
		func(p *impl.Prog) { p.Main = ended(slices.Repeat(opsFrom("endl"), 1500)...) }, func(p *impl.Prog) { p.Start = ended(slices.Repeat(opsFrom("endl"), 1500)...) },
	) {
		p := right()
		turn(&p)
		list = append(list, p)
	}
	return list
}

func TestRunWrongProgs(t *testing.T) {
	states := append(rightStates(), wrongStates()...)
	states = append(states, stateCase{impl.State{Vars: []impl.Val{num(1), num(2)}, Cells: manyCells(5), Nr: 4}, 2, 2})
	for _, p := range wrongProgs() {
		checkProg(t, p, false)
		s, out := impl.RunStart(p)
		all, more := impl.RunAll(p, []string{"a", "b"})
		none, still := impl.RunAll(p, nil)
		checkState(t, "RunStart of what is no program", s, impl.State{})
		checkState(t, "RunAll of what is no program", all, impl.State{})
		checkState(t, "RunAll of no lines of what is no program", none, impl.State{})
		if out+more+still != "" {
			t.Errorf("what is no program puts out %q, %q, %q", out, more, still)
		}
		for _, c := range states {
			got, out := impl.Run(p, c.s, "a line")
			checkState(t, "Run of what is no program", got, c.s)
			if out != "" {
				t.Errorf("what is no program puts out %q", out)
			}
		}
	}
}

// progWith has so many names of vars and lists, and shows something.
func progWith(vars int, lists int) impl.Prog {
	list := opsFrom("text <seen>, show 0")
	return impl.Prog{Vars: strings.Fields("a b c d e f g h")[:vars], Cells: strings.Fields("A B C D E F G H")[:lists], Start: ended(list...), Main: ended(list...)}
}

func TestRunStates(t *testing.T) {
	asked := 0
	for i, c := range append(wrongStates(), rightStates()...) {
		if c.vars < 0 || c.vars > impl.MaxNames || c.lists < 0 || c.lists > impl.MaxNames {
			continue
		}
		asked++
		want, text := c.s, ""
		switch {
		case i < len(wrongStates()) || c.s.Err != impl.ErNone:
		case c.s.Nr == impl.MaxLines:
			want.Err = impl.ErNum
		default:
			want.Nr++
			text = "seen"
		}
		got, out := impl.Run(progWith(c.vars, c.lists), c.s, "a")
		checkState(t, "Run", got, want)
		if out != text {
			t.Errorf("%s puts out %q, want %q", shownState(c.s), out, text)
		}
	}
	if asked < 100 {
		t.Errorf("only %d states", asked)
	}
	for vars := range 9 {
		for lists := range 9 {
			s := impl.State{Vars: make([]impl.Val, 3), Cells: []impl.Cell{cellOf(4, "a", num(1))}}
			got, _ := impl.Run(progWith(vars, lists), s, "")
			if isRight := got.Nr == 1; isRight != (vars == 3 && lists >= 5) {
				t.Errorf("%d vars, %d lists: %s", vars, lists, shownState(got))
			}
		}
	}
}

// TestRunWrongStaysSo is promise 12 of places: a state in which something went
// wrong is as it was behind any line, and nothing is put out.
func TestRunWrongStaysSo(t *testing.T) {
	p := stackProg(nil, opsFrom("num 1, setvar 0, pop, text <k>, drop 0, text <out>, show 0, endl"))
	for _, code := range []int{impl.ErNum, impl.ErZero, impl.ErLong, impl.ErRoom, impl.ErOut, impl.ErFuel, impl.ErStack, -1, 8, math.MaxInt, math.MinInt} {
		for _, nr := range []int{0, 5, impl.MaxLines} {
			s := stackState()
			s.Nr, s.Err = nr, code
			for _, line := range []string{"", "a", stackLine} {
				got, out := impl.Run(p, s, line)
				if checkState(t, "a state with Err", got, s); out != "" {
					t.Errorf("Err %d, but %q is put out", code, out)
				}
			}
		}
	}
}

// TestRunWrongTurnsNothing: in each way, behind places that turned something, of
// the first line and of one that comes behind others.
func TestRunWrongTurnsNothing(t *testing.T) {
	long := strings.Repeat("t", 301)
	ways := map[int][]string{
		impl.ErNum: {"num 9000000, num 1, add", "num 9000000, plusvar 7, pop, num 1, plusvar 7"}, impl.ErZero: {"num 1, num 0, div", "num 1, var 7, mod"}, impl.ErLong: {"text <" + long + ">", "text <" + long[:300] + ">, num 1, cat"},
		impl.ErRoom: {"num 1, plusvar 7, num 1, setcell 0, pop, jump 0"}, impl.ErOut: {"text <more>, show 1, jump 0"}, impl.ErFuel: {"jump 0", "num 1, zero 0, jump 0"}, impl.ErStack: {"pop", "num 1, jump 0"},
	}
	for code := impl.ErNum; code <= impl.ErStack; code++ {
		for _, way := range ways[code] {
			checkErr(t, "", way, code)
			checkErr(t, stackLine, way, code)
			// Only a line that says so goes wrong.
			ahead := opsFrom("num 1, plusvar 0, show 0, endl, num 1, field, nr, setcell 1, pop, line <bad>")
			list := glued(ahead, hop(impl.OcZero, len(opsFrom(way))+1), opsFrom(way))
			p := stackProg(opsFrom("text <begin>, show 0, endl"), list)
			s, out := impl.RunAll(p, []string{"x", "y", "bad", "z", "bad"})
			want := impl.State{Nr: 2, Vars: []impl.Val{num(2), {}, {}, {}, {}, {}, {}, {}}, Cells: []impl.Cell{cellOf(1, "x", num(1)), cellOf(1, "y", num(2))}, Err: code}
			if checkState(t, "two lines, then "+way, s, want); out != "begin\n1\n2\n" {
				t.Errorf("two lines, then %s: %q", way, out)
			}
		}
	}
}

// TestRunWritesNothing: neither into what is handed in nor behind it; what is told
// is memory of its own, and the same each time.
func TestRunWritesNothing(t *testing.T) {
	var progs []impl.Prog
	for _, src := range []string{
		"BEGIN { x = 1; A[1] = k; print x; } { x += 1; A[$1] = x; delete A[k]; B[NR] = $0; print; }", "{ k = x; B[2] = 3; A[1] = 1 / 0; }", "{ x; k; A[1]; B[1]; }", "{ x = k; delete A[\"k05\"]; delete B[\"k25\"]; }", "{ x = k = 1; A[\"k05\"] += 1; B[\"k21\"] = substr($0, 1); } /a/ && !($1 ~ /b/) { print; }",
	} {
		progs = append(progs, built(t, src))
	}
	progs = append(progs, wrongProgs()[3:20]...)
	lines := []string{"k03 b", "", "a", "k05"}
	for _, prog := range progs {
		var p, whole impl.Prog
		p.Vars, whole.Vars = withRoom(prog.Vars, "room")
		p.Cells, whole.Cells = withRoom(prog.Cells, "room")
		p.Start, whole.Start = withRoom(prog.Start, opN(88, 1))
		p.Main, whole.Main = withRoom(prog.Main, opN(88, 2))
		beforeProg := cloneProg(whole)
		rows, allRows := withRoom(lines, "room")
		for _, cells := range []int{0, 1, 30, 39, 40} {
			for k := range 9 {
				s := impl.State{Vars: []impl.Val{valText("first"), num(2)}, Cells: manyCells(cells), Nr: []int{3, -1, impl.MaxLines}[k%3], Err: k / 3 % 3 * 4}
				cut, wholeState := roomyState(s)
				before := wholeState
				before.Vars, before.Cells = slices.Clone(wholeState.Vars), slices.Clone(wholeState.Cells)
				checkOwn(t, func() (impl.State, string) { return impl.Run(p, cut, "k03 b") }, cut)
				// checkOwn has written over what was handed in, behind what it asked.
				copy(wholeState.Vars, before.Vars)
				copy(wholeState.Cells, before.Cells)
				impl.Run(p, cut, "k03 b")
				checkState(t, "what was handed in", wholeState, before)
			}
		}
		checkOwn(t, func() (impl.State, string) { return impl.RunStart(p) }, impl.State{})
		checkOwn(t, func() (impl.State, string) { return impl.RunAll(p, rows) }, impl.State{})
		if !sameProg(whole, beforeProg) || !slices.Equal(allRows[:4], lines) || slices.ContainsFunc(allRows[4:], func(s string) bool { return s != "room" }) {
			t.Errorf("something is written into %s", shownProg(whole))
		}
	}
}

// checkOwn asks for the same answer twice, and that neither answer turns when the
// other one, or what was handed in, is written over.
func checkOwn(t *testing.T, ask func() (impl.State, string), given impl.State) {
	t.Helper()
	first, out := ask()
	second, more := ask()
	kept := second
	kept.Vars, kept.Cells = slices.Clone(second.Vars), slices.Clone(second.Cells)
	checkState(t, "the answer once more", first, second)
	if out != more {
		t.Errorf("%q is put out, then %q", out, more)
	}
	spoilt(first)
	checkState(t, "an answer beside another one", second, kept)
	third, _ := ask()
	checkState(t, "the answer behind one that was written over", third, kept)
	spoilt(given)
	checkState(t, "an answer behind what was handed in", second, kept)
}

// TestRunSoon: long lines, many of them, and places that are gone over as often
// as they may be.
func TestRunSoon(t *testing.T) {
	p := built(t, "/b$/ { print NF, length($0), $2; }")
	if s, out := impl.Run(p, impl.State{}, strings.Repeat("a ", 1000000)+"b"); s.Err != impl.ErNone || out != "1000001 300 a\n" {
		t.Errorf("%s, %q", shownState(s), out)
	}
	pattern := strings.Repeat("(a*b?|c)+", 6)
	p = stackProg(nil, opsFrom("num 1, plusvar 0, num 2000, less, zero 11, line <"+pattern+">, pop, text <abc>, fits <"+pattern+">, pop, jump 0, num 0, setvar 0"))
	if s, _ := impl.RunAll(p, slices.Repeat([]string{"abcabc"}, 30)); s.Err != impl.ErFuel || s.Nr != 0 {
		t.Errorf("%s", shownState(s))
	}
	p.Main[2].N = 1700 * one
	if s, _ := impl.RunAll(p, slices.Repeat([]string{"abcabc"}, 30)); s.Err != impl.ErNone || s.Nr != 30 {
		t.Errorf("%s", shownState(s))
	}
	var many []impl.Op
	for i := range 749 {
		many = append(many, opS(impl.OcLine, fmt.Sprintf("%s%d", pattern[:45], i)), opN(impl.OcPop, 0))
	}
	if s, _ := impl.RunAll(stackProg(many, many), slices.Repeat([]string{"ab"}, 300)); s.Err != impl.ErNone || s.Nr != 300 {
		t.Errorf("%s", shownState(s))
	}
}
