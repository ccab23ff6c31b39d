package tests

import (
	"fmt"
	"math"
	"math/big"
	"math/rand"
	"slices"
	"strings"
	"testing"

	"loop.example/g00289/impl"
)

// codeNames has the document's names of the codes, from 1 on.
const codeNames = "OcNum OcText OcVar OcSetVar OcPlusVar OcCell OcSetCell OcPlusCell OcField OcNr OcNf OcAdd OcSub OcMul OcDiv OcMod OcCat OcLess OcMost OcMore OcLeast OcSame OcOther OcFits OcLine OcNot OcMinus OcBool OcCall OcJump OcZero OcPop OcShow OcEndl OcDrop OcNext"

// sixCalls are all that an OcCall may have.
const sixCalls = "length substr index int upper lower"

func opOf(code int, n int, s string) impl.Op { return impl.Op{Code: code, N: n, S: s} }

// opN and opS are places with an N alone and with an S alone.
func opN(code int, n int) impl.Op    { return impl.Op{Code: code, N: n} }
func opS(code int, s string) impl.Op { return impl.Op{Code: code, S: s} }

// ended is a list with OcNext behind it.
func ended(list ...impl.Op) []impl.Op {
	return append(slices.Clone(list), opN(impl.OcNext, 0))
}

func shownOps(list []impl.Op) string {
	if len(list) > 6 {
		return fmt.Sprintf("%.200q .. (%d places)", fmt.Sprint(list[:6]), len(list))
	}
	return fmt.Sprintf("%.200q", fmt.Sprint(list))
}

func checkOps(t *testing.T, list []impl.Op, vars int, cells int, want bool) {
	t.Helper()
	if got := impl.OpsOk(list, vars, cells); got != want {
		t.Errorf("OpsOk(%s, %d, %d) = %v", shownOps(list), vars, cells, got)
	}
}

func checkOpText(t *testing.T, o impl.Op, want string) {
	t.Helper()
	if got := impl.OpText(o); got != want {
		t.Errorf("OpText(%.100q) = %.100q; want %.100q", fmt.Sprint(o), got, want)
	}
}

func TestOpNumbers(t *testing.T) {
	codes := []int{impl.OcNum, impl.OcText, impl.OcVar, impl.OcSetVar, impl.OcPlusVar, impl.OcCell, impl.OcSetCell, impl.OcPlusCell, impl.OcField, impl.OcNr, impl.OcNf, impl.OcAdd, impl.OcSub, impl.OcMul, impl.OcDiv, impl.OcMod, impl.OcCat, impl.OcLess, impl.OcMost, impl.OcMore, impl.OcLeast, impl.OcSame, impl.OcOther, impl.OcFits, impl.OcLine, impl.OcNot, impl.OcMinus, impl.OcBool, impl.OcCall, impl.OcJump, impl.OcZero, impl.OcPop, impl.OcShow, impl.OcEndl, impl.OcDrop, impl.OcNext}
	for i, code := range codes {
		if code != i+1 {
			t.Errorf("code %d is %d", i+1, code)
		}
	}
	if len(codes) != 36 || len(strings.Fields(codeNames)) != 36 || impl.MaxOps != 1500 {
		t.Error("numbers")
	}
}

// opCase is a place that is right with two vars, two lists and three places or
// more, and its text.
type opCase struct {
	op   impl.Op
	text string
}

// rightOps has each code, and each kind of N and S.
func rightOps() []opCase {
	list := []opCase{
		{opN(impl.OcNum, 0), "num 0"}, {opN(impl.OcNum, one), "num 1"}, {opN(impl.OcNum, 42*one), "num 42"}, {opN(impl.OcNum, 2500000), "num 2.5"}, {opN(impl.OcNum, 1), "num 0.000001"},
		{opN(impl.OcNum, -1), "num -0.000001"}, {opN(impl.OcNum, -one), "num -1"}, {opN(impl.OcNum, -2500000), "num -2.5"}, {opN(impl.OcNum, top), "num 9000000"}, {opN(impl.OcNum, -top), "num -9000000"}, {opN(impl.OcNum, top-1), "num 8999999.999999"},
		{opS(impl.OcText, ""), "text <>"}, {opS(impl.OcText, "a"), "text <a>"}, {opS(impl.OcText, "<"), "text <<>"}, {opS(impl.OcText, ">"), "text <>>"}, {opS(impl.OcText, "> <"), "text <> <>"}, {opS(impl.OcText, "a <b> c"), "text <a <b> c>"},
		{opS(impl.OcText, " "), "text < >"}, {opS(impl.OcText, "\n\x00\"\\"), "text <\n\x00\"\\>"}, {opS(impl.OcText, "\xff\xc3"), "text <\xff\xc3>"}, {opS(impl.OcText, "5"), "text <5>"}, {opS(impl.OcText, "("), "text <(>"}, {opS(impl.OcText, strings.Repeat("x", 5000)), "text <" + strings.Repeat("x", 5000) + ">"},
		{opN(impl.OcVar, 0), "var 0"}, {opN(impl.OcVar, 1), "var 1"}, {opN(impl.OcSetVar, 0), "setvar 0"}, {opN(impl.OcSetVar, 1), "setvar 1"}, {opN(impl.OcPlusVar, 0), "plusvar 0"}, {opN(impl.OcPlusVar, 1), "plusvar 1"},
		{opN(impl.OcCell, 0), "cell 0"}, {opN(impl.OcCell, 1), "cell 1"}, {opN(impl.OcSetCell, 0), "setcell 0"}, {opN(impl.OcSetCell, 1), "setcell 1"}, {opN(impl.OcPlusCell, 0), "pluscell 0"}, {opN(impl.OcPlusCell, 1), "pluscell 1"}, {opN(impl.OcDrop, 0), "drop 0"}, {opN(impl.OcDrop, 1), "drop 1"},
		{opN(impl.OcField, 0), "field"}, {opN(impl.OcNr, 0), "nr"}, {opN(impl.OcNf, 0), "nf"},
		{opN(impl.OcAdd, 0), "add"}, {opN(impl.OcSub, 0), "sub"}, {opN(impl.OcMul, 0), "mul"}, {opN(impl.OcDiv, 0), "div"}, {opN(impl.OcMod, 0), "mod"}, {opN(impl.OcCat, 0), "cat"},
		{opN(impl.OcLess, 0), "less"}, {opN(impl.OcMost, 0), "most"}, {opN(impl.OcMore, 0), "more"}, {opN(impl.OcLeast, 0), "least"}, {opN(impl.OcSame, 0), "same"}, {opN(impl.OcOther, 0), "other"},
		{opS(impl.OcFits, ""), "fits <>"}, {opS(impl.OcFits, "a(b|c)*$"), "fits <a(b|c)*$>"}, {opS(impl.OcFits, "[<>]"), "fits <[<>]>"}, {opS(impl.OcLine, ""), "line <>"}, {opS(impl.OcLine, "^x y"), "line <^x y>"}, {opS(impl.OcLine, strings.Repeat("x", 40)), "line <" + strings.Repeat("x", 40) + ">"},
		{opN(impl.OcNot, 0), "not"}, {opN(impl.OcMinus, 0), "minus"}, {opN(impl.OcBool, 0), "bool"},
		{opN(impl.OcJump, 0), "jump 0"}, {opN(impl.OcJump, 1), "jump 1"}, {opN(impl.OcJump, 2), "jump 2"}, {opN(impl.OcZero, 0), "zero 0"}, {opN(impl.OcZero, 1), "zero 1"}, {opN(impl.OcZero, 2), "zero 2"},
		{opN(impl.OcPop, 0), "pop"}, {opN(impl.OcShow, 0), "show 0"}, {opN(impl.OcShow, 1), "show 1"}, {opN(impl.OcEndl, 0), "endl"}, {opN(impl.OcNext, 0), "next"},
	}
	for _, call := range strings.Fields(sixCalls) {
		for n := 1; n <= 3; n++ {
			list = append(list, opCase{opOf(impl.OcCall, n, call), fmt.Sprintf("call %d <%s>", n, call)})
		}
	}
	return list
}

// TestOpsRight is promise 13: what is right is so at each place, and has its text.
func TestOpsRight(t *testing.T) {
	codes := map[int]bool{}
	for _, c := range rightOps() {
		codes[c.op.Code] = true
		checkOps(t, ended(c.op, opN(impl.OcPop, 0)), 2, 2, true)
		checkOps(t, ended(opN(impl.OcPop, 0), c.op), 2, 2, true)
		checkOps(t, ended(c.op, c.op, c.op), 2, 2, true)
		checkOpText(t, c.op, c.text)
	}
	if len(codes) != 36 {
		t.Errorf("%d codes", len(codes))
	}
	var all []impl.Op
	for _, c := range rightOps() {
		all = append(all, c.op)
	}
	checkOps(t, ended(all...), 2, 2, true)
	checkOps(t, ended(all...), math.MaxInt, math.MaxInt, true)
}

func TestOpsLast(t *testing.T) {
	checkOps(t, nil, 2, 2, false)
	checkOps(t, []impl.Op{}, 2, 2, false)
	checkOps(t, []impl.Op{opN(impl.OcNext, 0)}, 0, 0, true)
	for _, c := range rightOps() {
		isNext := c.op.Code == impl.OcNext
		checkOps(t, ended(opN(impl.OcPop, 0), opN(impl.OcPop, 0), c.op)[:3], 2, 2, isNext)
		checkOps(t, append(ended(opN(impl.OcPop, 0), opN(impl.OcPop, 0)), c.op), 2, 2, isNext)
	}
	// What stands behind the list does not end it.
	checkOps(t, ended(opN(impl.OcPop, 0))[:1:2], 0, 0, false)
	// An OcNext that is not right ends nothing.
	for _, o := range []impl.Op{opN(impl.OcNext, 1), opN(impl.OcNext, -1), opS(impl.OcNext, "a")} {
		checkOps(t, []impl.Op{o}, 2, 2, false)
		checkOps(t, ended(o), 2, 2, false)
	}
}

func TestOpsLimit(t *testing.T) {
	pops := slices.Repeat([]impl.Op{opN(impl.OcPop, 0)}, 3001)
	for _, c := range []struct {
		count int
		right bool
	}{{1, true}, {2, true}, {1499, true}, {1500, true}, {1501, false}, {1502, false}, {3000, false}} {
		checkOps(t, ended(pops[:c.count-1]...), 0, 0, c.right)
	}
	// Of so many each counts.
	list := ended(pops[:1499]...)
	for at := range list {
		list[at].N = 1
		checkOps(t, list, 0, 0, false)
		list[at].N = 0
		list[at].S = "a"
		checkOps(t, list, 0, 0, false)
		list[at].S = ""
		for _, jump := range []int{impl.OcJump, impl.OcZero} {
			list[0] = opN(jump, at)
			checkOps(t, list, 0, 0, true)
		}
		list[0] = opN(impl.OcPop, 0)
	}
	for _, to := range []int{-1, 1500, 1501, math.MaxInt, math.MinInt} {
		list[7] = opN(impl.OcJump, to)
		checkOps(t, list, 2000, 2000, false)
	}
}

func TestOpsNumberLimits(t *testing.T) {
	for _, c := range []struct {
		n     int
		right bool
	}{{top, true}, {top - 1, true}, {top + 1, false}, {-top, true}, {1 - top, true}, {-top - 1, false}, {math.MaxInt, false}, {math.MinInt, false}, {0, true}, {-1, true}} {
		checkOps(t, ended(opN(impl.OcNum, c.n)), 0, 0, c.right)
	}
}

// TestOpsNames: the vars and the lists are counted apart.
func TestOpsNames(t *testing.T) {
	vars := []int{impl.OcVar, impl.OcSetVar, impl.OcPlusVar}
	lists := []int{impl.OcCell, impl.OcSetCell, impl.OcPlusCell, impl.OcDrop}
	counts := []int{math.MinInt, -2, -1, 0, 1, 2, 8, 9, math.MaxInt}
	for _, count := range counts {
		for _, other := range counts {
			for _, n := range []int{math.MinInt, -9, -1, 0, 1, 2, 7, 8, 9, math.MaxInt - 1, math.MaxInt, count - 1, count, count + 1} {
				right := n >= 0 && n < count
				for _, code := range vars {
					checkOps(t, ended(opN(code, n)), count, other, right)
				}
				for _, code := range lists {
					checkOps(t, ended(opN(code, n)), other, count, right)
				}
			}
		}
		// Where nothing is named, it is the same how many there are.
		checkOps(t, ended(opN(impl.OcNr, 0)), count, count, true)
	}
}

func TestOpsJumps(t *testing.T) {
	for places := 1; places <= 5; places++ {
		for to := -3; to <= places+3; to++ {
			for _, code := range []int{impl.OcJump, impl.OcZero} {
				list := ended(slices.Repeat([]impl.Op{opN(code, to)}, places)...)
				checkOps(t, list, 9, 9, to >= 0 && to <= places)
			}
		}
	}
	for _, to := range []int{math.MinInt, math.MaxInt, 1 << 32, -1 << 32} {
		checkOps(t, ended(opN(impl.OcJump, to)), math.MaxInt, math.MaxInt, false)
		checkOps(t, ended(opN(impl.OcZero, to)), math.MaxInt, math.MaxInt, false)
	}
}

// TestOpsUnnamed: for each code, what is not named may not stand there, and is not
// told.
func TestOpsUnnamed(t *testing.T) {
	for _, c := range rightOps() {
		var spoilt []impl.Op
		if !tellsN(c.op.Code) {
			for _, n := range []int{-1, 1, 2, one, top, 1 << 32, math.MaxInt, math.MinInt} {
				spoilt = append(spoilt, opOf(c.op.Code, n, c.op.S))
			}
		}
		if !tellsS(c.op.Code) {
			for _, s := range []string{"a", " ", "\x00", "int", "0", "()"} {
				spoilt = append(spoilt, opOf(c.op.Code, c.op.N, s))
			}
		}
		for _, o := range spoilt {
			checkOps(t, ended(o, c.op), 2, 2, false)
			checkOps(t, ended(c.op, o), 2, 2, false)
			checkOpText(t, o, c.text)
		}
	}
}

func TestOpsWrongCodes(t *testing.T) {
	for _, code := range []int{0, -1, -2, -36, 37, 38, 73, 1 << 32, 1<<32 + 1, math.MaxInt, math.MinInt} {
		for _, o := range []impl.Op{opN(code, 0), opN(code, 1), opS(code, "int"), opOf(code, 1, "int")} {
			checkOps(t, ended(o), 2, 2, false)
			checkOps(t, []impl.Op{o}, 2, 2, false)
			checkOpText(t, o, "")
		}
	}
}

func TestOpsPatterns(t *testing.T) {
	for _, s := range []string{"(", ")", "*", "a)", "(a", "[", "[a", "[b-a]", "+a", "?", "a\\", "a|*", "(*)", strings.Repeat("x", impl.MaxRex+1), strings.Repeat("(", 30) + "a" + strings.Repeat(")", 30)} {
		_, right := impl.RexParse(s)
		for _, code := range []int{impl.OcFits, impl.OcLine} {
			checkOps(t, ended(opS(code, s)), 0, 0, right)
			checkOps(t, ended(opN(impl.OcNr, 0), opS(code, s), opS(code, "a")), 0, 0, right)
		}
		checkOpText(t, opS(impl.OcFits, s), "fits <"+s+">")
		checkOpText(t, opS(impl.OcLine, s), "line <"+s+">")
		// A text may be what no pattern is.
		checkOps(t, ended(opS(impl.OcText, s)), 0, 0, true)
	}
	for _, s := range []string{"(", "*", "[b-a]", "a\\"} {
		checkOps(t, ended(opS(impl.OcFits, s)), 0, 0, false)
		checkOps(t, ended(opS(impl.OcLine, s)), 0, 0, false)
	}
	longest := strings.Repeat("x", impl.MaxRex)
	checkOps(t, ended(opS(impl.OcFits, longest), opS(impl.OcLine, longest)), 0, 0, true)
	checkOps(t, ended(opS(impl.OcFits, longest+"x")), 0, 0, false)
	checkOps(t, ended(opS(impl.OcLine, longest+"x")), 0, 0, false)
	eachText("a(|)*[]-\\^", 4, func(s string) {
		_, right := impl.RexParse(s)
		checkOps(t, ended(opS(impl.OcFits, s)), 0, 0, right)
		checkOps(t, ended(opS(impl.OcLine, s)), 0, 0, right)
	})
}

func TestOpsCalls(t *testing.T) {
	for _, call := range strings.Fields(sixCalls) {
		for _, n := range []int{math.MinInt, -1, 0, 1, 2, 3, 4, 5, one, math.MaxInt} {
			checkOps(t, ended(opOf(impl.OcCall, n, call)), 0, 0, n >= 1 && n <= 3)
			checkOpText(t, opOf(impl.OcCall, n, call), fmt.Sprintf("call %d <%s>", n, call))
		}
		for _, other := range []string{call + " ", " " + call, call + "x", call[1:], call[:len(call)-1], strings.ToUpper(call), call + "\x00", call + call} {
			checkOps(t, ended(opOf(impl.OcCall, 1, other)), 2, 2, false)
			checkOpText(t, opOf(impl.OcCall, 1, other), "call 1 <"+other+">")
		}
	}
	for _, other := range []string{"", "print", "if", "BEGIN", "NR", "x", "split", "sub", "len", "(", "<int>"} {
		checkOps(t, ended(opOf(impl.OcCall, 1, other)), 2, 2, false)
	}
}

func TestOpsShow(t *testing.T) {
	for _, n := range []int{math.MinInt, -1, 0, 1, 2, 3, one, math.MaxInt} {
		checkOps(t, ended(opN(impl.OcShow, n)), 9, 9, n == 0 || n == 1)
		checkOpText(t, opN(impl.OcShow, n), fmt.Sprintf("show %d", n))
	}
}

// TestOpTextWrong: a text goes by the code alone, whatever N and S are.
func TestOpTextWrong(t *testing.T) {
	checkOpText(t, impl.Op{}, "")
	checkOpText(t, opN(impl.OcVar, -1), "var -1")
	checkOpText(t, opN(impl.OcVar, math.MinInt), "var -9223372036854775808")
	checkOpText(t, opN(impl.OcDrop, math.MaxInt), "drop 9223372036854775807")
	checkOpText(t, opN(impl.OcJump, 1500), "jump 1500")
	checkOpText(t, opOf(impl.OcVar, 3, "x"), "var 3")
	checkOpText(t, opOf(impl.OcText, 3, "x"), "text <x>")
	checkOpText(t, opOf(impl.OcAdd, 3, "x"), "add")
	checkOpText(t, opS(impl.OcFits, "("), "fits <(>")
	checkOpText(t, opN(impl.OcCall, 0), "call 0 <>")
	// DecText of what is not right is empty.
	for _, n := range []int{top + 1, -top - 1, math.MaxInt, math.MinInt} {
		checkOpText(t, opN(impl.OcNum, n), "num ")
	}
}

// tellsN and tellsS say, by words, which codes have an N, which ones an S.
func tellsN(code int) bool {
	return code >= 1 && code <= 36 && strings.Contains(" OcNum OcVar OcSetVar OcPlusVar OcCell OcSetCell OcPlusCell OcDrop OcCall OcJump OcZero OcShow ", " "+strings.Fields(codeNames)[code-1]+" ")
}

func tellsS(code int) bool {
	return code >= 1 && code <= 36 && strings.Contains(" OcText OcFits OcLine OcCall ", " "+strings.Fields(codeNames)[code-1]+" ")
}

// rightOp tells a right place by the name of its code.
func rightOp(o impl.Op, vars int, cells int, places int) bool {
	if o.Code < 1 || o.Code > 36 || !tellsN(o.Code) && o.N != 0 || !tellsS(o.Code) && o.S != "" {
		return false
	}
	name := strings.Fields(codeNames)[o.Code-1]
	_, isRex := impl.RexParse(o.S)
	most := math.MaxInt
	switch {
	case name == "OcNum":
		return big.NewInt(int64(o.N)).CmpAbs(big.NewInt(9000000000000)) <= 0
	case name == "OcCall":
		return strings.Contains("1 2 3", fmt.Sprint(o.N)) && slices.Contains(strings.Fields(sixCalls), o.S)
	case name == "OcShow":
		return o.N>>1 == 0
	case name == "OcFits" || name == "OcLine":
		return isRex
	case strings.HasSuffix(name, "Var"):
		most = vars - 1
	case strings.HasSuffix(name, "Cell") || name == "OcDrop":
		most = cells - 1
	case name == "OcJump" || name == "OcZero":
		most = places - 1
	}
	return o.N >= 0 && o.N <= most
}

func textOfOp(o impl.Op) string {
	if o.Code < 1 || o.Code > 36 {
		return ""
	}
	parts := []string{strings.ToLower(strings.Fields(codeNames)[o.Code-1][2:])}
	if o.Code == 1 {
		parts = append(parts, impl.DecText(o.N))
	} else if tellsN(o.Code) {
		parts = append(parts, fmt.Sprint(o.N))
	}
	if tellsS(o.Code) {
		parts = append(parts, "<"+o.S+">")
	}
	return strings.Join(parts, " ")
}

// TestOpsEach holds every code with many an N and S against the words.
func TestOpsEach(t *testing.T) {
	numbers := []int{math.MinInt, -top - 1, -top, -1, 0, 1, 2, 3, 4, 5, 12, 123, top, top + 1, math.MaxInt}
	texts := []string{"", "a", "(", "int", "substr", "length", "[", "<>", "1"}
	for code := -2; code <= 40; code++ {
		for _, n := range numbers {
			for _, s := range texts {
				o := opOf(code, n, s)
				checkOpText(t, o, textOfOp(o))
				for _, list := range [][]impl.Op{ended(o), ended(opN(impl.OcNf, 0), o, opN(impl.OcPop, 0)), append(ended(), o)} {
					right := rightOp(o, 2, 4, len(list)) && list[len(list)-1].Code == 36
					checkOps(t, list, 2, 4, right)
				}
			}
		}
	}
}

// TestOpsByChance: one place that is not right is enough; of a list that is right
// each place has a text, and others have others.
func TestOpsByChance(t *testing.T) {
	chance := rand.New(rand.NewSource(13))
	rights := 0
	for range 4000 {
		var list []impl.Op
		for range chance.Intn(12) {
			o := rightOps()[chance.Intn(len(rightOps()))].op
			if chance.Intn(30) == 0 {
				o.Code = chance.Intn(39) - 1
			}
			list = append(list, o)
		}
		list = ended(list...)
		vars, cells := 1+chance.Intn(3), 1+chance.Intn(3)
		right := !slices.ContainsFunc(list, func(o impl.Op) bool { return !rightOp(o, vars, cells, len(list)) })
		checkOps(t, list, vars, cells, right)
		if !right {
			continue
		}
		rights++
		texts := map[string]impl.Op{}
		for _, o := range list {
			text := impl.OpText(o)
			if other, ok := texts[text]; text == "" || ok && other != o {
				t.Errorf("OpText(%v) = %q, as of %v", o, text, other)
			}
			texts[text] = o
		}
	}
	if rights < 400 {
		t.Errorf("%d lists were right", rights)
	}
}

func TestOpsWriteNothing(t *testing.T) {
	for _, c := range rightOps() {
		for _, list := range [][]impl.Op{ended(c.op, c.op), {c.op}, ended(opN(99, 5)), nil} {
			cut, whole := withRoom(list, opS(impl.OcText, "room"))
			before := slices.Clone(whole)
			first := impl.OpsOk(cut, 2, 2)
			for _, o := range cut {
				impl.OpText(o)
			}
			if second := impl.OpsOk(cut, 2, 2); first != second || !slices.Equal(whole, before) {
				t.Errorf("OpsOk(%s) writes into its argument, or behind it", shownOps(list))
			}
		}
	}
}

// TestOpTextAgain: it is the same each time, in whatever order names are found.
func TestOpTextAgain(t *testing.T) {
	for range 50 {
		for _, c := range rightOps() {
			checkOpText(t, c.op, c.text)
		}
	}
}
