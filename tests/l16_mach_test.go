package tests

import (
	"fmt"
	"math"
	"slices"
	"strings"
	"testing"

	"loop.example/g00289/impl"
)

func cmdOf(who int, seq int, line string) impl.Cmd {
	return impl.Cmd{Who: who, Seq: seq, Line: line}
}

func machOf(s impl.State, out string, done ...int) impl.Mach {
	return impl.Mach{State: s, Done: done, Out: out}
}

func shownMach(m impl.Mach) string {
	return fmt.Sprintf("%s; done %d; %d bytes: %.200q", shownState(m.State), m.Done, len(m.Out), m.Out)
}

func sameMach(a impl.Mach, b impl.Mach) bool {
	return sameState(a.State, b.State) && slices.Equal(a.Done, b.Done) && a.Out == b.Out
}

func checkMach(t *testing.T, what string, got impl.Mach, want impl.Mach) {
	t.Helper()
	if !sameMach(got, want) {
		t.Errorf("%.300s is\n%s; want\n%s", what, shownMach(got), shownMach(want))
	}
}

func checkMachOk(t *testing.T, p impl.Prog, m impl.Mach, want bool) {
	t.Helper()
	if got := impl.MachOk(p, m); got != want {
		t.Errorf("MachOk is %v of %s\nby %.300s", got, shownMach(m), shownProg(p))
	}
}

func cloneMach(m impl.Mach) impl.Mach {
	m.State.Vars, m.State.Cells, m.Done = slices.Clone(m.State.Vars), slices.Clone(m.State.Cells), slices.Clone(m.Done)
	return m
}

// doOf is MachDo, and asks for what holds of each one: it is right, and of the
// client of the command alone another number is done.
func doOf(t *testing.T, p impl.Prog, m impl.Mach, c impl.Cmd) impl.Mach {
	t.Helper()
	checkMachOk(t, p, m, true)
	got := impl.MachDo(p, m, c)
	checkMachOk(t, p, got, true)
	if !strings.HasPrefix(got.Out, m.Out) {
		t.Errorf("%v takes away of %.80q: %.80q", c, m.Out, got.Out)
	}
	for who := range min(len(got.Done), len(m.Done)) {
		if who != c.Who && got.Done[who] != m.Done[who] || got.Done[who] < m.Done[who] {
			t.Errorf("behind %v of %d is done %d", c, m.Done, got.Done)
		}
	}
	return got
}

// checkDone is of a command that is done: of its line there is what Run tells.
func checkDone(t *testing.T, p impl.Prog, m impl.Mach, c impl.Cmd) impl.Mach {
	t.Helper()
	s, out := impl.Run(p, m.State, c.Line)
	want := machOf(s, m.Out+out, slices.Clone(m.Done)...)
	want.Done[c.Who] = c.Seq
	got := doOf(t, p, m, c)
	checkMach(t, fmt.Sprintf("MachDo of %v", c), got, want)
	return got
}

// checkNotDone is of a command that turns nothing.
func checkNotDone(t *testing.T, p impl.Prog, m impl.Mach, c impl.Cmd) {
	t.Helper()
	checkMach(t, fmt.Sprintf("MachDo of %v, which is not to be done,", c), doOf(t, p, m, c), m)
}

// machProg has what keeps and shows: how often a line came, sums by name, a line
// that goes wrong.
func machProg(t *testing.T) impl.Prog {
	t.Helper()
	return built(t, "BEGIN { print \"begin\"; n = 10; } { n += 1; s[$1] += $2; print n, NR, $1, s[$1]; } $1 == \"bad\" { print 1 / 0; }")
}

// echoProg puts out of each line one byte more than it has, and of what it counts
// nothing.
func echoProg(t *testing.T) impl.Prog {
	t.Helper()
	return built(t, "{ n += 1; seen[NR] = n; print; }")
}

func TestMachConstants(t *testing.T) {
	if impl.Clients != 3 || impl.MaxLine != 60 || impl.MaxAll != 1500 || impl.MaxSeq != 100000 {
		t.Error("limits")
	}
}

func TestCmdOk(t *testing.T) {
	full := strings.Repeat("l", 60)
	for _, c := range []impl.Cmd{
		cmdOf(-1, 0, ""), cmdOf(0, 1, ""), cmdOf(1, 1, ""), cmdOf(2, 1, ""), cmdOf(0, 100000, ""), cmdOf(2, 99999, "a b"), cmdOf(1, 2, " "), cmdOf(1, 2, full), cmdOf(1, 2, full[:59]), cmdOf(2, 100000, full),
		cmdOf(0, 1, strings.Repeat("\u00e9", 30)), cmdOf(0, 1, "\\n"), cmdOf(0, 1, strings.Repeat("\r", 60)), cmdOf(0, 1, strings.Repeat("\x00", 60)), cmdOf(0, 1, "\x8a\u010a\u0a0a"),
	} {
		if !impl.CmdOk(c) {
			t.Errorf("%v is not CmdOk", c)
		}
	}
	for _, c := range []impl.Cmd{
		{}, cmdOf(-1, 1, ""), cmdOf(-1, -1, ""), cmdOf(-1, 0, "a"), cmdOf(-1, 0, " "), cmdOf(-1, 0, "\n"), cmdOf(-1, 1, "a"), cmdOf(-1, math.MaxInt, ""),
		cmdOf(-2, 0, ""), cmdOf(-2, 1, ""), cmdOf(3, 1, ""), cmdOf(3, 0, ""), cmdOf(4, 1, "a"), cmdOf(math.MinInt, 1, ""), cmdOf(math.MaxInt, 1, ""), cmdOf(1<<32, 1, ""), cmdOf(1<<32-1, 0, ""),
		cmdOf(0, 0, ""), cmdOf(2, 0, "a"), cmdOf(0, -1, ""), cmdOf(0, 100001, ""), cmdOf(1, math.MinInt, ""), cmdOf(1, math.MaxInt, ""), cmdOf(1, 1<<32+1, ""),
		cmdOf(0, 1, full+"l"), cmdOf(0, 1, full+" "), cmdOf(0, 1, strings.Repeat("l", 5000000)), cmdOf(0, 1, strings.Repeat("\u00e9", 31)), cmdOf(0, 1, strings.Repeat("\u00e9", 30)+"e"),
		cmdOf(0, 1, "\n"), cmdOf(0, 1, "a\n"), cmdOf(0, 1, "\na"), cmdOf(0, 1, "a\nb"), cmdOf(0, 1, "\r\n"), cmdOf(0, 1, full[:59]+"\n"), cmdOf(0, 1, full+"\n"), cmdOf(0, 1, "\xc3\n"),
	} {
		if impl.CmdOk(c) {
			t.Errorf("%.80v is CmdOk", c)
		}
	}
}

// TestCmdOkEachByte: the byte 10 alone may not be there.
func TestCmdOkEachByte(t *testing.T) {
	for b := range 256 {
		s := string([]byte{byte(b)})
		for _, line := range []string{s, "a" + s, s + "a", strings.Repeat("a", 59) + s, strings.Repeat(s, 60)} {
			if got := impl.CmdOk(cmdOf(1, 5, line)); got != (b != 10) {
				t.Errorf("CmdOk with the byte %d is %v", b, got)
			}
			if impl.CmdOk(cmdOf(-1, 0, line)) {
				t.Errorf("nobody says the byte %d", b)
			}
		}
	}
}

// edgeCmds are of numbers and lines at their limits, and beside them.
func edgeCmds() []impl.Cmd {
	var list []impl.Cmd
	for _, who := range []int{math.MinInt, -3, -2, -1, 0, 1, 2, 3, 4, 1 << 32, math.MaxInt} {
		for _, seq := range []int{math.MinInt, -1, 0, 1, 2, 99999, 100000, 100001, 1<<32 + 1, math.MaxInt} {
			for _, line := range []string{"", "a", "x 5", "a\nb", "\n", strings.Repeat("b", 60), strings.Repeat("c", 61), strings.Repeat("d", 59) + "\n"} {
				list = append(list, cmdOf(who, seq, line))
			}
		}
	}
	return list
}

// rightCmd has the words of the document the other way round.
func rightCmd(c impl.Cmd) bool {
	switch c.Who {
	case -1:
		return c == impl.Cmd{Who: -1}
	case 0, 1, 2:
		return 0 < c.Seq && c.Seq < 100001 && len(c.Line) < 61 && len(strings.Split(c.Line, "\n")) == 1
	}
	return false
}

// TestMachEdgeCmds: what is no command turns nothing, what is one is done where
// its number is above.
func TestMachEdgeCmds(t *testing.T) {
	p := machProg(t)
	for _, done := range [][]int{{0, 0, 0}, {1, 0, 5}, {99999, 100000, 1}, {100000, 100000, 100000}} {
		m := impl.MachNew(p)
		m.Done = done
		for _, c := range edgeCmds() {
			if got := impl.CmdOk(c); got != rightCmd(c) {
				t.Errorf("CmdOk of %.80v is %v", c, got)
			}
			if rightCmd(c) && c.Who >= 0 && c.Seq > done[c.Who] {
				checkDone(t, p, m, c)
			} else {
				checkNotDone(t, p, m, c)
			}
		}
	}
}

func TestMachOkRight(t *testing.T) {
	for _, c := range rightStates() {
		if c.vars < 0 || c.vars > impl.MaxNames || c.lists < 0 || c.lists > impl.MaxNames {
			continue
		}
		p := progWith(c.vars, c.lists)
		for _, out := range []string{"", "a\n", "\x00\xff", strings.Repeat("o", 1499), strings.Repeat("o", 1500)} {
			for _, done := range [][]int{{0, 0, 0}, {1, 2, 3}, {100000, 100000, 100000}, {0, 99999, 0}} {
				checkMachOk(t, p, machOf(c.s, out, done...), true)
			}
		}
	}
}

// wrongDones are no lists of what clients have done.
func wrongDones() [][]int {
	return [][]int{
		nil, {}, {0}, {0, 0}, {0, 0, 0, 0}, {1, 2, 3, 4, 5}, make([]int, 1000),
		{-1, 0, 0}, {0, -1, 0}, {0, 0, -1}, {100001, 0, 0}, {0, 100001, 0}, {0, 0, 100001}, {math.MinInt, 0, 0}, {0, 0, math.MaxInt}, {0, 1<<32 + 1, 0}, {-1, -1, -1},
	}
}

// machCase is a Mach, and a program.
type machCase struct {
	m    impl.Mach
	prog impl.Prog
}

// wrongMachs are of programs that are right, and wrong in one way each but for the
// last ones.
func wrongMachs() []machCase {
	var list []machCase
	for _, c := range wrongStates() {
		if c.vars >= 0 && c.vars <= impl.MaxNames && c.lists >= 0 && c.lists <= impl.MaxNames {
			list = append(list, machCase{machOf(c.s, "out\n", 1, 0, 3), progWith(c.vars, c.lists)})
		}
	}
	s := impl.State{Vars: []impl.Val{num(1), valText("a")}, Cells: manyCells(5), Nr: 4}
	for _, done := range wrongDones() {
		list = append(list, machCase{machOf(s, "out\n", done...), progWith(2, 2)})
	}
	for _, count := range []int{1501, 1502, 3000, 100000} {
		list = append(list, machCase{machOf(s, strings.Repeat("o", count), 1, 0, 3), progWith(2, 2)})
	}
	for names := range 9 {
		if names != 2 {
			list = append(list, machCase{machOf(s, "", 1, 0, 3), progWith(names, 2)})
		}
		if names < 2 {
			list = append(list, machCase{machOf(s, "", 1, 0, 3), progWith(2, names)})
		}
	}
	return append(list, machCase{impl.Mach{}, progWith(0, 0)}, machCase{machOf(s, strings.Repeat("o", 1501), -1, 5), progWith(1, 0)})
}

// TestMachWrong: what is not right is as it was behind any command.
func TestMachWrong(t *testing.T) {
	list := wrongMachs()
	if len(list) < 100 {
		t.Errorf("only %d machs", len(list))
	}
	for _, c := range list {
		checkMachOk(t, c.prog, c.m, false)
		for _, cmd := range []impl.Cmd{cmdOf(0, 2, "a"), cmdOf(1, 1, ""), cmdOf(2, 100000, "x 5"), cmdOf(2, 1, "a"), cmdOf(-1, 0, ""), cmdOf(-1, 1, ""), cmdOf(3, 1, ""), cmdOf(0, 2, "a\n"), {}} {
			checkMach(t, "MachDo of what is not right", impl.MachDo(c.prog, c.m, cmd), c.m)
		}
	}
}

// TestMachOkEachPart: of right parts it is right, with a part that is wrong it is
// not, whatever the others are.
func TestMachOkEachPart(t *testing.T) {
	progs := []impl.Prog{progWith(2, 2), progWith(1, 2), progWith(2, 1), {}, wrongProgs()[3], wrongProgs()[20]}
	s := impl.State{Vars: []impl.Val{num(1), valText("a")}, Cells: manyCells(5), Nr: 4}
	wrong := s
	wrong.Nr = -1
	for i, p := range progs {
		for j, state := range []impl.State{s, wrong, {}} {
			for k, done := range [][]int{{0, 7, 100000}, {0, 7}, {0, 7, 100001}} {
				for l, out := range []string{strings.Repeat("o", 1500), strings.Repeat("o", 1501)} {
					checkMachOk(t, p, machOf(state, out, done...), i+j+k+l == 0)
				}
			}
		}
	}
}

func TestMachWrongProgs(t *testing.T) {
	machs := []impl.Mach{{}, machOf(impl.State{Vars: []impl.Val{num(1), num(2)}, Cells: manyCells(5), Nr: 4}, "out\n", 1, 2, 3), machOf(impl.State{}, "", 0, 0, 0), machOf(impl.State{Vars: make([]impl.Val, 2), Err: 3}, strings.Repeat("o", 1501), 1, -2, 3, 4)}
	for _, p := range wrongProgs() {
		checkProg(t, p, false)
		checkMach(t, "MachNew of what is no program", impl.MachNew(p), impl.Mach{})
		checkMach(t, "MachAll of no command of what is no program", impl.MachAll(p, nil), impl.Mach{})
		checkMach(t, "MachAll of what is no program", impl.MachAll(p, []impl.Cmd{cmdOf(0, 1, "a"), cmdOf(1, 1, "b"), cmdOf(-1, 0, "")}), impl.Mach{})
		for _, m := range machs {
			checkMachOk(t, p, m, false)
			for _, c := range []impl.Cmd{cmdOf(0, 2, "a"), cmdOf(-1, 0, ""), cmdOf(2, 100000, ""), {}} {
				checkMach(t, "MachDo of what is no program", impl.MachDo(p, m, c), m)
			}
		}
	}
}

// checkNew asks for what RunStart tells, and that nobody is done.
func checkNew(t *testing.T, p impl.Prog) impl.Mach {
	t.Helper()
	s, out := impl.RunStart(p)
	m := impl.MachNew(p)
	checkMach(t, "MachNew", m, machOf(s, out, 0, 0, 0))
	checkMach(t, "MachAll of no command", impl.MachAll(p, nil), m)
	checkMach(t, "MachAll of no command", impl.MachAll(p, []impl.Cmd{}), m)
	checkMachOk(t, p, m, true)
	return m
}

func TestMachNew(t *testing.T) {
	m := checkNew(t, machProg(t))
	checkMach(t, "MachNew", m, machOf(impl.State{Vars: []impl.Val{num(10)}}, "begin\n", 0, 0, 0))
	checkMach(t, "MachNew", checkNew(t, built(t, "")), machOf(impl.State{}, "", 0, 0, 0))
	checkMach(t, "MachNew", checkNew(t, built(t, "{ x = y; A[1] = 2; }")), machOf(impl.State{Vars: make([]impl.Val, 2)}, "", 0, 0, 0))
	checkMach(t, "MachNew", checkNew(t, built(t, "BEGIN { A[1] = 2; print; print \"a\"; }")), machOf(stateOf(cellOf(0, "1", num(2))), "\na\n", 0, 0, 0))
	// Where the beginning goes wrong there is a Mach too, and its commands are done.
	for src, code := range map[string]int{"BEGIN { x = 1; print x; y = 1 / 0; }": impl.ErZero, "BEGIN { x = 9000000; x += 1; }": impl.ErNum, "BEGIN { while (1) { print; } x; }": impl.ErOut, "BEGIN { while (1) { } } { x += 1; print; }": impl.ErFuel} {
		p := built(t, src)
		m := checkNew(t, p)
		want := machOf(impl.State{Vars: make([]impl.Val, len(p.Vars)), Err: code}, "", 0, 0, 0)
		checkMach(t, src, m, want)
		want.Done = []int{0, 4, 1}
		checkMach(t, src, impl.MachAll(p, []impl.Cmd{cmdOf(1, 4, "a"), cmdOf(2, 1, "b"), cmdOf(1, 3, "c")}), want)
	}
}

// TestMachNewOut: a beginning puts out what a line may, and no more than a Mach.
func TestMachNewOut(t *testing.T) {
	for _, count := range []int{0, 1, 2, 598, 599, 600, 601, 602, 900, 1498, 1499} {
		p := stackProg(slices.Repeat(opsFrom("endl"), count), nil)
		want := machOf(impl.State{Vars: make([]impl.Val, 8)}, strings.Repeat("\n", count), 0, 0, 0)
		if count > 600 {
			want.State.Err, want.Out = impl.ErOut, ""
		}
		checkMach(t, fmt.Sprintf("a beginning of %d bytes", count), checkNew(t, p), want)
	}
	long := "text <" + strings.Repeat("b", 300) + ">, show 0, "
	for _, more := range []int{0, 1, 300} {
		for times := range 6 {
			count := 300*times + more
			p := stackProg(opsFrom("num 5, setvar 1, pop, "+strings.Repeat(long, times)+"text <"+strings.Repeat("b", more)+">, show 0"), nil)
			want := machOf(impl.State{Vars: make([]impl.Val, 8)}, strings.Repeat("b", count), 0, 0, 0)
			want.State.Vars[1] = num(5)
			if count > 600 {
				want.State.Err, want.Out, want.State.Vars[1] = impl.ErOut, "", valNone
			}
			checkMach(t, fmt.Sprintf("a beginning of %d bytes", count), checkNew(t, p), want)
		}
	}
}

// TestMachInTurn: commands of each client, one behind the other.
func TestMachInTurn(t *testing.T) {
	p := machProg(t)
	list := []impl.Cmd{cmdOf(0, 1, "x 5"), cmdOf(1, 1, "y 2"), cmdOf(2, 1, "x 1"), cmdOf(1, 2, ""), cmdOf(0, 2, "y 2.5"), cmdOf(2, 7, "x"), cmdOf(0, 100000, "z -1")}
	m := impl.MachNew(p)
	s, text := impl.RunStart(p)
	for i, c := range list {
		m = checkDone(t, p, m, c)
		next, out := impl.Run(p, s, c.Line)
		s, text = next, text+out
		checkState(t, "the state behind Run of each line", m.State, s)
		if m.Out != text {
			t.Errorf("%q is put out, want %q", m.Out, text)
		}
		checkMach(t, "MachAll", impl.MachAll(p, list[:i+1]), m)
	}
	want := machOf(impl.State{Nr: 7, Vars: []impl.Val{num(17)}, Cells: []impl.Cell{cellOf(0, "", num(0)), cellOf(0, "x", num(6)), cellOf(0, "y", num(4.5)), cellOf(0, "z", num(-1))}},
		"begin\n11 1 x 5\n12 2 y 2\n13 3 x 6\n14 4  0\n15 5 y 4.5\n16 6 x 6\n17 7 z -1\n", 100000, 2, 7)
	checkMach(t, "seven commands", m, want)
	lines := []string{}
	for _, c := range list {
		lines = append(lines, c.Line)
	}
	if s, out := impl.RunAll(p, lines); !sameState(s, m.State) || out != m.Out {
		t.Errorf("RunAll of the lines is %s, %q", shownState(s), out)
	}
}

// TestMachTwice is promise 16: what came twice, at once or behind others, is done
// once.
func TestMachTwice(t *testing.T) {
	p := machProg(t)
	m := impl.MachNew(p)
	first := cmdOf(1, 2, "x 5")
	a := checkDone(t, p, m, first)
	checkNotDone(t, p, a, first)
	// By its number alone, whatever its line is.
	for _, line := range []string{"", "x 5 ", "y 9", "bad"} {
		checkNotDone(t, p, a, cmdOf(1, 2, line))
		checkNotDone(t, p, a, cmdOf(1, 1, line))
	}
	b := checkDone(t, p, a, cmdOf(0, 2, "x 5"))
	checkNotDone(t, p, b, first)
	c := checkDone(t, p, checkDone(t, p, b, cmdOf(2, 1, "")), cmdOf(1, 3, "x 5"))
	for _, again := range []impl.Cmd{first, cmdOf(0, 2, "x 5"), cmdOf(2, 1, ""), cmdOf(1, 3, "x 5"), cmdOf(0, 1, "x 5"), cmdOf(-1, 0, "")} {
		checkNotDone(t, p, c, again)
	}
	if c.State.Nr != 4 || c.Out != "begin\n11 1 x 5\n12 2 x 10\n13 3  0\n14 4 x 15\n" || !slices.Equal(c.Done, []int{2, 3, 1}) {
		t.Errorf("four commands: %s", shownMach(c))
	}
	// A greater number that leaves some out; those are not done any more.
	d := checkDone(t, p, c, cmdOf(1, 50, "y 1"))
	for _, seq := range []int{4, 5, 49, 50} {
		checkNotDone(t, p, d, cmdOf(1, seq, "y 1"))
	}
	checkDone(t, p, d, cmdOf(1, 51, "y 1"))
	checkDone(t, p, d, cmdOf(0, 3, "y 1"))
	// The last number that there is.
	e := checkDone(t, p, d, cmdOf(1, 100000, "y 1"))
	for _, seq := range []int{51, 99999, 100000, 100001} {
		checkNotDone(t, p, e, cmdOf(1, seq, "y 1"))
	}
}

// TestMachAllTwice: a list, and the same one without what came twice.
func TestMachAllTwice(t *testing.T) {
	p := machProg(t)
	once := []impl.Cmd{cmdOf(1, 2, "x 5"), cmdOf(0, 1, "x 1"), cmdOf(2, 3, "y 1"), cmdOf(1, 3, "x 5"), cmdOf(0, 4, "z 0.5")}
	want := impl.MachAll(p, once)
	if want.State.Nr != 5 || want.Out != "begin\n11 1 x 5\n12 2 x 6\n13 3 y 1\n14 4 x 11\n15 5 z 0.5\n" || !slices.Equal(want.Done, []int{4, 3, 3}) {
		t.Errorf("five commands: %s", shownMach(want))
	}
	for i, c := range once {
		for at := i + 1; at <= len(once); at++ {
			checkMach(t, fmt.Sprintf("%v once more at %d", c, at), impl.MachAll(p, slices.Insert(slices.Clone(once), at, c)), want)
			checkMach(t, fmt.Sprintf("%v thrice", c), impl.MachAll(p, slices.Insert(slices.Clone(once), at, c, c, c)), want)
			c.Line = "other 1"
			checkMach(t, fmt.Sprintf("%v with another line at %d", c, at), impl.MachAll(p, slices.Insert(slices.Clone(once), at, c)), want)
			c.Line = once[i].Line
		}
	}
	for at := range len(once) + 1 {
		for _, c := range []impl.Cmd{cmdOf(-1, 0, ""), cmdOf(-1, 1, "x 1"), cmdOf(3, 1, "x 1"), cmdOf(-2, 1, "x 1"), cmdOf(0, 0, "x 1"), cmdOf(0, 100001, "x 1"), cmdOf(0, 99, "x\n1"), cmdOf(0, 99, strings.Repeat("x", 61)), {}} {
			checkMach(t, fmt.Sprintf("%.80v, which is nothing, at %d", c, at), impl.MachAll(p, slices.Insert(slices.Clone(once), at, c)), want)
		}
	}
	checkMach(t, "all twice", impl.MachAll(p, slices.Concat(once, once)), want)
	checkMach(t, "each twice", impl.MachAll(p, slices.Concat(once[:1], once[:2], once[:3], once[:4], once, once)), want)
}

// TestMachAllOut: as much as a Mach may have put out, and one byte more.
func TestMachAllOut(t *testing.T) {
	p := echoProg(t)
	line := strings.Repeat("e", 60)
	for have := 1430; have <= 1500; have++ {
		for _, count := range []int{0, 1, 10, 38, 39, 40, 58, 59, 60} {
			s := impl.State{Nr: 7, Vars: []impl.Val{num(3)}, Cells: []impl.Cell{cellOf(0, "2", num(2))}}
			m := machOf(s, strings.Repeat("o", have), 0, 4, 9)
			c := cmdOf(1, 6, line[:count])
			got := doOf(t, p, m, c)
			want := machOf(s, m.Out, 0, 6, 9)
			if have+count+1 <= 1500 {
				want.State = impl.State{Nr: 8, Vars: []impl.Val{num(4)}, Cells: []impl.Cell{cellOf(0, "2", num(2)), cellOf(0, "8", num(4))}}
				want.Out += c.Line + "\n"
			} else {
				want.State.Err = impl.ErOut
			}
			checkMach(t, fmt.Sprintf("%d bytes behind %d", count+1, have), got, want)
		}
	}
}

// TestMachAllOutThenDone: behind a line that puts out too much, commands are done,
// and turn nothing else.
func TestMachAllOutThenDone(t *testing.T) {
	p := echoProg(t)
	list := []impl.Cmd{}
	for i := range 40 {
		list = append(list, cmdOf(i%3, i/3+1, strings.Repeat("e", 59)))
	}
	full := impl.MachAll(p, list[:25])
	if full.State.Err != impl.ErNone || full.State.Nr != 25 || len(full.Out) != 1500 {
		t.Errorf("25 lines of 60 bytes: %s", shownMach(full))
	}
	want := full
	want.State.Err = impl.ErOut
	for count := 26; count <= 40; count++ {
		want.Done = []int{(count + 2) / 3, (count + 1) / 3, count / 3}
		checkMach(t, fmt.Sprintf("%d lines of 60 bytes", count), impl.MachAll(p, list[:count]), want)
	}
	// What puts out nothing comes too late as well; what came twice is still nothing.
	m := impl.MachAll(p, list[:26])
	late := doOf(t, p, m, cmdOf(2, 30, ""))
	checkMach(t, "a command that comes too late", late, machOf(m.State, m.Out, 9, 9, 30))
	checkNotDone(t, p, late, cmdOf(2, 30, ""))
	checkNotDone(t, p, late, cmdOf(2, 29, ""))
	checkNotDone(t, p, late, cmdOf(-1, 0, ""))
	// One byte is too much where there is no more room, and none is not.
	quiet := built(t, "{ n += 1; } $1 { print; }")
	whole := machOf(impl.State{Vars: []impl.Val{num(1)}, Nr: 1}, full.Out, 0, 0, 0)
	m = checkDone(t, quiet, whole, cmdOf(0, 1, ""))
	checkMach(t, "a line without a text", m, machOf(impl.State{Vars: []impl.Val{num(2)}, Nr: 2}, full.Out, 1, 0, 0))
	m = doOf(t, quiet, m, cmdOf(0, 2, "1"))
	checkMach(t, "a line with a text", m, machOf(impl.State{Vars: []impl.Val{num(2)}, Nr: 2, Err: impl.ErOut}, full.Out, 2, 0, 0))
}

// TestMachBigLines: of what lines and the beginning put out together.
func TestMachBigLines(t *testing.T) {
	big := func(count int) []impl.Op {
		return opsFrom("num 1, plusvar 0, pop, text <" + strings.Repeat("b", min(count, 300)) + ">, show 0, text <" + strings.Repeat("b", max(count-300, 0)) + ">, show 0")
	}
	for _, c := range []struct{ begin, line, fit int }{
		{0, 500, 3}, {0, 501, 2}, {600, 450, 2}, {600, 451, 1}, {600, 300, 3}, {599, 300, 3}, {600, 600, 1}, {0, 600, 2}, {300, 600, 2}, {301, 600, 1}, {1, 500, 2}, {0, 1, 20},
	} {
		p := stackProg(big(c.begin), big(c.line))
		list := []impl.Cmd{}
		for i := range 20 {
			list = append(list, cmdOf(i%3, 5+i, ""))
		}
		for i := range 21 {
			done := min(i, c.fit)
			s := impl.State{Vars: make([]impl.Val, 8), Nr: done}
			s.Vars[0] = num(float64(1 + done))
			if i > done {
				s.Err = impl.ErOut
			}
			want := machOf(s, strings.Repeat("b", c.begin+done*c.line), 0, 0, 0)
			for _, cmd := range list[:i] {
				want.Done[cmd.Who] = cmd.Seq
			}
			checkMach(t, fmt.Sprintf("%d commands of %v", i, c), impl.MachAll(p, list[:i]), want)
		}
	}
}

// TestMachWrongLines: where a line goes wrong its number is done, and nothing else
// turns but Err; commands behind it are done, and turn nothing.
func TestMachWrongLines(t *testing.T) {
	p := machProg(t)
	m := checkDone(t, p, impl.MachNew(p), cmdOf(0, 1, "x 5"))
	bad := checkDone(t, p, m, cmdOf(0, 2, "bad 3"))
	want := machOf(m.State, m.Out, 2, 0, 0)
	want.State.Err = impl.ErZero
	checkMach(t, "a line that goes wrong", bad, want)
	want.Done = []int{2, 9, 0}
	bad = checkDone(t, p, bad, cmdOf(1, 9, "x 5"))
	checkMach(t, "a command behind it", bad, want)
	checkNotDone(t, p, bad, cmdOf(0, 2, "x 5"))
	checkNotDone(t, p, bad, cmdOf(1, 8, "x 5"))
	// Too much for a line, where a Mach has room for it.
	p = stackProg(nil, opsFrom("num 1, setvar 0, show 0, "+strings.Repeat("text <"+strings.Repeat("b", 300)+">, show 0, ", 2)+"num 1, pop"))
	got := doOf(t, p, impl.MachNew(p), cmdOf(2, 4, ""))
	checkMach(t, "a line of 601 bytes", got, machOf(impl.State{Vars: make([]impl.Val, 8), Err: impl.ErOut}, "", 0, 0, 4))
	// What goes wrong in a line counts, where it would have put out too much too.
	p = built(t, "{ print; print 1 / 0; }")
	full := machOf(impl.State{}, strings.Repeat("o", 1500), 0, 0, 0)
	got = doOf(t, p, full, cmdOf(1, 1, "a"))
	checkMach(t, "a line that goes wrong behind 1500 bytes", got, machOf(impl.State{Err: impl.ErZero}, full.Out, 0, 1, 0))
	// The last line that there is, and one more.
	p = echoProg(t)
	last := machOf(impl.State{Vars: []impl.Val{num(1)}, Nr: 999999}, "", 0, 0, 0)
	last = checkDone(t, p, last, cmdOf(0, 1, "a"))
	got = checkDone(t, p, last, cmdOf(0, 2, "a"))
	want = machOf(last.State, last.Out, 2, 0, 0)
	want.State.Err = impl.ErNum
	checkMach(t, "a line too many", got, want)
}

// TestMachErrStays is promise 12 of a Mach: whatever went wrong stays so.
func TestMachErrStays(t *testing.T) {
	p := echoProg(t)
	for code := impl.ErNum; code <= impl.ErStack; code++ {
		for _, nr := range []int{0, 5, 1000000} {
			for _, count := range []int{0, 7, 1499, 1500} {
				s := impl.State{Vars: []impl.Val{valText("v")}, Cells: []impl.Cell{cellOf(0, "k", num(1))}, Nr: nr, Err: code}
				m := machOf(s, strings.Repeat("o", count), 3, 0, 100000)
				checkMach(t, "a state with Err", doOf(t, p, m, cmdOf(0, 4, "a")), machOf(s, m.Out, 4, 0, 100000))
				checkMach(t, "a state with Err", doOf(t, p, m, cmdOf(1, 1, "")), machOf(s, m.Out, 3, 1, 100000))
				for _, c := range []impl.Cmd{cmdOf(0, 3, "a"), cmdOf(0, 1, ""), cmdOf(2, 100000, "a"), cmdOf(-1, 0, ""), cmdOf(0, 4, "\n")} {
					checkNotDone(t, p, m, c)
				}
			}
		}
	}
}

// spoiltMach writes over all that a Mach has, its spare room too.
func spoiltMach(m impl.Mach) {
	spoilt(m.State)
	for i := range m.Done[:cap(m.Done)] {
		m.Done[:cap(m.Done)][i] = -7
	}
}

// roomyMach is a Mach with spare room behind its lists, and the whole of it.
func roomyMach(m impl.Mach) (cut impl.Mach, whole impl.Mach) {
	cut, whole = m, m
	cut.State, whole.State = roomyState(m.State)
	cut.Done, whole.Done = withRoom(m.Done, 55)
	return cut, whole
}

// checkOwnMach asks for the same answer twice, and that neither answer turns when
// the other one is written over.
func checkOwnMach(t *testing.T, ask func() impl.Mach) impl.Mach {
	t.Helper()
	first, second := ask(), ask()
	kept := cloneMach(second)
	checkMach(t, "the answer once more", first, second)
	spoiltMach(first)
	checkMach(t, "an answer beside another one", second, kept)
	checkMach(t, "the answer behind one that was written over", ask(), kept)
	return second
}

// TestMachWritesNothing: neither into what is handed in nor behind it; what is
// told is memory of its own, and the same each time.
func TestMachWritesNothing(t *testing.T) {
	src := "BEGIN { x = 1; A[1] = k; print x; } { x += 1; A[$1] = x; delete A[k]; B[NR] = $0; print; }"
	progs := append([]impl.Prog{built(t, src), built(t, "{ x = k; A[2]; B[2]; print 1 / $2; }"), built(t, "{ x; k; A[1]; B[1]; }")}, wrongProgs()[3:12]...)
	cmds := []impl.Cmd{cmdOf(0, 5, "k03 b"), cmdOf(1, 1, "k05"), cmdOf(2, 100000, ""), cmdOf(0, 1, "a"), cmdOf(-1, 0, ""), cmdOf(3, 1, "a"), cmdOf(1, 2, "a\n"), cmdOf(1, 100, strings.Repeat("z", 60))}
	s := impl.State{Vars: []impl.Val{valText("first"), num(2)}, Cells: manyCells(30), Nr: 3}
	wrong, none := s, s
	wrong.Nr, none.Err = -1, impl.ErRoom
	machs := []impl.Mach{machOf(s, "out\n", 1, 0, 3), machOf(s, strings.Repeat("o", 1500), 1, 0, 3), machOf(none, "out\n", 1, 0, 3), machOf(wrong, "out\n", 1, 0, 3), machOf(s, "", 1, 0, 3, 4), machOf(s, strings.Repeat("o", 1501), 1, 0), {}}
	for _, prog := range progs {
		var p, whole impl.Prog
		p.Vars, whole.Vars = withRoom(prog.Vars, "room")
		p.Cells, whole.Cells = withRoom(prog.Cells, "room")
		p.Start, whole.Start = withRoom(prog.Start, opN(88, 1))
		p.Main, whole.Main = withRoom(prog.Main, opN(88, 2))
		beforeProg := cloneProg(whole)
		for _, m := range machs {
			for _, c := range cmds {
				cut, wholeMach := roomyMach(m)
				before := cloneMach(wholeMach)
				impl.MachOk(p, cut)
				got := checkOwnMach(t, func() impl.Mach { return impl.MachDo(p, cut, c) })
				checkMach(t, "what was handed in", wholeMach, before)
				kept := cloneMach(got)
				spoiltMach(cut)
				checkMach(t, "an answer behind what was handed in", got, kept)
			}
		}
		list, wholeList := withRoom(cmds, cmdOf(0, 777, "room"))
		beforeList := slices.Clone(wholeList)
		checkOwnMach(t, func() impl.Mach { return impl.MachNew(p) })
		checkOwnMach(t, func() impl.Mach { return impl.MachAll(p, list) })
		checkOwnMach(t, func() impl.Mach { return impl.MachAll(p, list[:1]) })
		if !slices.Equal(wholeList, beforeList) || !sameProg(whole, beforeProg) {
			t.Errorf("something is written into %v or %s", wholeList, shownProg(whole))
		}
	}
}

// TestMachSoon: many commands, most of them of no use, with a program of many
// patterns.
func TestMachSoon(t *testing.T) {
	var many []impl.Op
	for i := range 700 {
		many = append(many, opS(impl.OcLine, fmt.Sprintf("%s%d", strings.Repeat("(a*b?|c)+", 5), i)), opN(impl.OcPop, 0))
	}
	p := stackProg(many, append(many, opsFrom("num 1, plusvar 0, pop")...))
	list := []impl.Cmd{}
	for i := range 300 {
		list = append(list, cmdOf(i%3, i+1, "ab"))
	}
	list = append(list, slices.Repeat([]impl.Cmd{cmdOf(0, 5, "ab"), cmdOf(-1, 0, ""), cmdOf(1, 7, strings.Repeat("x", 100000)), cmdOf(9, 9, "")}, 50000)...)
	want := machOf(impl.State{Vars: make([]impl.Val, 8), Nr: 300}, "", 298, 299, 300)
	want.State.Vars[0] = num(300)
	checkMach(t, "many commands", impl.MachAll(p, list), want)
	// As soon where something went wrong at the first of all.
	list = nil
	for i := range 300000 {
		list = append(list, cmdOf(i%3, i/3+1, "bad"))
	}
	want = machOf(impl.State{Vars: []impl.Val{num(10)}, Err: impl.ErZero}, "begin\n", 100000, 100000, 100000)
	checkMach(t, "as many commands as clients may send", impl.MachAll(machProg(t), list), want)
}
