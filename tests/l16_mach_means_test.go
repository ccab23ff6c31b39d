package tests

import (
	"fmt"
	"math/rand"
	"slices"
	"strings"
	"testing"

	"loop.example/g00289/impl"
)

// The tests of this file hold a Mach against the commands themselves: which of
// them are to be done is told first, by all that stand ahead of each, and their
// lines are gone over then.

// toBeDone are the commands of a list that are to be done: no earlier one of the
// same client has a number as great.
func toBeDone(list []impl.Cmd) []impl.Cmd {
	var some []impl.Cmd
	for i, c := range list {
		isLate := slices.ContainsFunc(list[:i], func(o impl.Cmd) bool { return rightCmd(o) && o.Who == c.Who && o.Seq >= c.Seq })
		if rightCmd(c) && c.Who != -1 && !isLate {
			some = append(some, c)
		}
	}
	return some
}

// machMeant is the Mach behind commands, from the state and the text on that a
// program begins with.
func machMeant(p impl.Prog, list []impl.Cmd) impl.Mach {
	m := impl.Mach{Done: make([]int, 3)}
	m.State, m.Out = impl.RunStart(p)
	for _, c := range toBeDone(list) {
		m.Done[c.Who] = max(m.Done[c.Who], c.Seq)
		s, out := impl.Run(p, m.State, c.Line)
		if all := m.Out + out; len(all) > 1500 {
			m.State.Err = impl.ErOut
		} else {
			m.State, m.Out = s, all
		}
	}
	return m
}

// cmdsByChance are of all clients, with numbers that often come twice, or too
// late; some of them are nobody's, or none.
func cmdsByChance(chance *rand.Rand, count int) []impl.Cmd {
	var list []impl.Cmd
	next := [3]int{1, 1, 1}
	for range count {
		line := someOf(chance, linesByChance(chance)...)
		who := chance.Intn(3)
		switch k := chance.Intn(16); {
		case k < 8:
			list = append(list, cmdOf(who, next[who], line))
			next[who] += 1 + chance.Intn(2)*chance.Intn(3)
		case k < 11 && len(list) > 0:
			list = append(list, someOf(chance, list...))
		case k < 13:
			list = append(list, cmdOf(who, 1+chance.Intn(next[who]+2), line))
		case k < 14:
			list = append(list, cmdOf(-1, 0, ""))
		default:
			list = append(list, cmdOf(chance.Intn(6)-2, chance.Intn(5)-1, someOf(chance, "", "a", "a\n", line)))
		}
	}
	return list
}

// withTwice has some of a list once more, each anywhere behind itself.
func withTwice(chance *rand.Rand, list []impl.Cmd) []impl.Cmd {
	list = slices.Clone(list)
	for range len(list) {
		i := chance.Intn(len(list))
		list = slices.Insert(list, i+1+chance.Intn(len(list)-i), list[i])
	}
	return list
}

// checkMeantMach asks MachAll, MachDo of each, and MachAll of lists with and
// without what came twice for the same Mach.
func checkMeantMach(t *testing.T, chance *rand.Rand, p impl.Prog, list []impl.Cmd) impl.Mach {
	t.Helper()
	want := machMeant(p, list)
	got := impl.MachAll(p, list)
	checkMach(t, fmt.Sprintf("MachAll of %.900v by %.900s", list, shownProg(p)), got, want)
	checkMachOk(t, p, got, true)
	m := impl.MachNew(p)
	for _, c := range list {
		m = doOf(t, p, m, c)
	}
	checkMach(t, "MachDo of each", m, want)
	checkMach(t, "MachAll without what came twice", impl.MachAll(p, toBeDone(list)), want)
	checkMach(t, "MachAll with what came twice", impl.MachAll(p, withTwice(chance, list)), want)
	return got
}

// TestMachByChance is promise 16 of programs and commands by chance.
func TestMachByChance(t *testing.T) {
	chance := rand.New(rand.NewSource(160))
	codes := map[int]int{}
	for range 600 {
		p, code := impl.Compile((&lively{chance: chance}).program())
		if code != impl.CkDone {
			continue
		}
		m := checkMeantMach(t, chance, p, cmdsByChance(chance, chance.Intn(12)))
		codes[m.State.Err]++
		g := &placeMaker{chance, 0}
		p = impl.Prog{Vars: []string{"a", "b", "c", "d"}, Cells: []string{"A", "B"}, Start: g.list(chance.Intn(6)), Main: g.list(chance.Intn(20))}
		m = checkMeantMach(t, chance, p, cmdsByChance(chance, chance.Intn(12)))
		codes[m.State.Err]++
	}
	for _, code := range []int{impl.ErNone, impl.ErNum, impl.ErZero, impl.ErLong, impl.ErStack} {
		if codes[code] < 10 {
			t.Errorf("Err %d came %d times: %v", code, codes[code], codes)
		}
	}
}

// TestMachOutByChance: with lines that put out much, of which some come to just as
// much as a Mach may have.
func TestMachOutByChance(t *testing.T) {
	chance := rand.New(rand.NewSource(161))
	full, over := 0, 0
	for range 400 {
		begin, line := 100*chance.Intn(7), 50*(1+chance.Intn(12))
		p := stackProg(opsFrom("text <"+strings.Repeat("b", begin/2)+">, show 0, text <"+strings.Repeat("b", begin/2)+">, show 0"),
			opsFrom("num 1, plusvar 0, pop, text <"+strings.Repeat("b", line/2)+">, show 0, text <"+strings.Repeat("b", line/2)+">, show 0"))
		m := checkMeantMach(t, chance, p, cmdsByChance(chance, chance.Intn(40)))
		if len(m.Out) == 1500 {
			full++
		}
		if m.State.Err == impl.ErOut {
			over++
		}
	}
	if full < 25 || over < 25 {
		t.Errorf("%d with 1500 bytes, %d with more", full, over)
	}
}

// TestMachEachOrder: all lists of few commands of two clients.
func TestMachEachOrder(t *testing.T) {
	p := machProg(t)
	some := []impl.Cmd{cmdOf(0, 1, "x 1"), cmdOf(0, 2, "x 2"), cmdOf(2, 1, "y 3"), cmdOf(2, 3, "bad"), cmdOf(-1, 0, "")}
	chance := rand.New(rand.NewSource(162))
	var grow func(list []impl.Cmd)
	grow = func(list []impl.Cmd) {
		checkMeantMach(t, chance, p, list)
		if len(list) == 4 {
			return
		}
		for _, c := range some {
			grow(append(slices.Clone(list), c))
		}
	}
	grow(nil)
}
