package tests

import (
	"fmt"
	"math"
	"slices"
	"strings"
	"testing"

	"loop.example/g00289/impl"
)

// termsFrom are entries of these Terms, whose commands have numbers from seq on.
func termsFrom(seq int, terms ...int) []impl.Entry {
	var list []impl.Entry
	for i, term := range terms {
		list = append(list, impl.Entry{Term: term, C: cmdOf((seq+i)%3, seq+i, fmt.Sprint("line ", seq+i))})
	}
	return list
}

func logOf(base int, term int, list ...impl.Entry) impl.Log {
	return impl.Log{Base: base, BaseTerm: term, List: list}
}

// longLog has as many entries, of the term of its base.
func longLog(base int, term int, count int) impl.Log {
	return logOf(base, term, termsFrom(1, slices.Repeat([]int{term}, count)...)...)
}

func sameLog(a impl.Log, b impl.Log) bool {
	return a.Base == b.Base && a.BaseTerm == b.BaseTerm && slices.Equal(a.List, b.List)
}

func shownEntries(list []impl.Entry) string {
	return fmt.Sprintf("%d entries %.400s", len(list), fmt.Sprint(list[:min(len(list), 20)]))
}

func shownLog(l impl.Log) string {
	return fmt.Sprintf("base %d of term %d, %s", l.Base, l.BaseTerm, shownEntries(l.List))
}

func checkLog(t *testing.T, what string, got impl.Log, want impl.Log) {
	t.Helper()
	if !sameLog(got, want) {
		t.Errorf("%s is\n%s; want\n%s", what, shownLog(got), shownLog(want))
	}
}

func checkLogOk(t *testing.T, l impl.Log, want bool) {
	t.Helper()
	if got := impl.LogOk(l); got != want {
		t.Errorf("LogOk is %v of %s", got, shownLog(l))
	}
}

func checkLast(t *testing.T, l impl.Log, wantLast int, wantTerm int) {
	t.Helper()
	if last, term := impl.LastOf(l); last != wantLast || term != wantTerm {
		t.Errorf("the last one is %d of term %d, want %d of term %d, of %s", last, term, wantLast, wantTerm, shownLog(l))
	}
}

func checkTermAt(t *testing.T, l impl.Log, i int, want int) {
	t.Helper()
	if got := impl.TermAt(l, i); got != want {
		t.Errorf("the Term at %d is %d, want %d, of %s", i, got, want, shownLog(l))
	}
}

func checkFrom(t *testing.T, l impl.Log, i int, want ...impl.Entry) {
	t.Helper()
	if got := impl.From(l, i); !slices.Equal(got, want) {
		t.Errorf("from %d on there is\n%s; want\n%s, of %s", i, shownEntries(got), shownEntries(want), shownLog(l))
	}
}

func checkNewer(t *testing.T, l impl.Log, last int, term int, want bool) {
	t.Helper()
	if got := impl.Newer(l, last, term); got != want {
		t.Errorf("Newer is %v by %d of term %d of %s", got, last, term, shownLog(l))
	}
}

// checkCut asks for a log whose base is i, with all that stood behind it, or for
// the log as it was.
func checkCut(t *testing.T, l impl.Log, i int, want impl.Log) impl.Log {
	t.Helper()
	got := impl.LogCut(l, i)
	if !sameLog(got, want) {
		t.Errorf("cut at %d of %s there is\n%s; want\n%s", i, shownLog(l), shownLog(got), shownLog(want))
	}
	return got
}

// putOf is of a list that is to be put, and asks for promise 18: each of it is
// there, as it is or, up to the first one of another Term, as it stood there.
func putOf(t *testing.T, l impl.Log, prev int, term int, list []impl.Entry) impl.Log {
	t.Helper()
	got, ok := impl.LogPut(l, prev, term, list)
	if !ok {
		t.Errorf("behind %d of term %d there is not put %s to %s", prev, term, shownEntries(list), shownLog(l))
		return l
	}
	checkLogOk(t, got, true)
	there, stood := impl.From(got, prev+1), impl.From(l, prev+1)
	for i, e := range list {
		if i >= len(stood) || stood[i].Term != e.Term {
			stood = nil
		} else {
			e = stood[i]
		}
		if i >= len(there) || there[i] != e {
			t.Errorf("behind %d there is %s, put was %s, to %s", prev, shownEntries(there), shownEntries(list), shownLog(l))
			break
		}
	}
	return got
}

// checkLogPut asks for a log as it is to be, and that the same put again turns nothing.
func checkLogPut(t *testing.T, l impl.Log, prev int, term int, list []impl.Entry, want impl.Log) {
	t.Helper()
	got := putOf(t, l, prev, term, list)
	if !sameLog(got, want) {
		t.Errorf("behind %d of term %d of %s there is put %s; it is\n%s; want\n%s", prev, term, shownLog(l), shownEntries(list), shownLog(got), shownLog(want))
	}
	checkLog(t, "the same put again", putOf(t, got, prev, term, list), want)
}

// checkNoPut is of what is not put: the log is as it was, zero where it is not right.
func checkNoPut(t *testing.T, l impl.Log, prev int, term int, list []impl.Entry) {
	t.Helper()
	want := l
	if !impl.LogOk(l) {
		want = impl.Log{}
	}
	got, ok := impl.LogPut(l, prev, term, list)
	if ok || !sameLog(got, want) {
		t.Errorf("LogPut is %v behind %d of term %d of %s; there is\n%s; want\n%s", ok, prev, term, shownEntries(list), shownLog(got), shownLog(want))
	}
}

// rightLogs are of each kind, and at the limits.
func rightLogs() []impl.Log {
	list := []impl.Log{
		{}, logOf(0, 0, []impl.Entry{}...), logOf(0, 300), logOf(300, 0), logOf(300, 300), logOf(7, 7),
		logOf(0, 0, termsFrom(1, 0)...), logOf(0, 0, termsFrom(1, 0, 0, 0)...), logOf(0, 0, termsFrom(1, 0, 1, 1, 4, 300)...), logOf(0, 300, termsFrom(1, 300, 300)...), logOf(5, 2, termsFrom(1, 2, 2, 3, 3, 9)...),
		logOf(299, 299, termsFrom(5, 300)...), logOf(298, 0, termsFrom(5, 0, 300)...), logOf(299, 0, termsFrom(99999, 0)...), logOf(0, 299, termsFrom(100000, 299)...),
		longLog(0, 0, 299), longLog(0, 0, 300), longLog(0, 300, 300), longLog(1, 5, 299), longLog(100, 5, 200), longLog(100, 5, 199),
		logOf(3, 1, impl.Entry{Term: 1, C: cmdOf(-1, 0, "")}, impl.Entry{Term: 1, C: cmdOf(2, 100000, strings.Repeat("l", 60))}, impl.Entry{Term: 2, C: cmdOf(0, 1, "")}, impl.Entry{Term: 2, C: cmdOf(0, 1, "")}),
	}
	terms := make([]int, 300)
	for i := range terms {
		terms[i] = i + 1
	}
	return append(list, logOf(0, 0, termsFrom(1, terms...)...), logOf(0, 1, termsFrom(1, terms...)...), logOf(0, 0, slices.Repeat([]impl.Entry{{Term: 5, C: cmdOf(-1, 0, "")}}, 300)...))
}

// wrongCmds are no commands.
func wrongCmds() []impl.Cmd {
	return []impl.Cmd{{}, cmdOf(-1, 1, ""), cmdOf(-1, 0, "a"), cmdOf(3, 1, ""), cmdOf(-2, 0, ""), cmdOf(0, 0, "a"), cmdOf(1, 100001, ""), cmdOf(2, 1, "a\n"), cmdOf(2, 1, strings.Repeat("l", 61)), cmdOf(math.MinInt, math.MaxInt, "\n")}
}

// wrongLogs are wrong in one way each, but for the last ones.
func wrongLogs() []impl.Log {
	list := []impl.Log{
		logOf(-1, 0), logOf(math.MinInt, 0), logOf(301, 0), logOf(math.MaxInt, 0), logOf(1<<32, 0), logOf(-1, 0, termsFrom(1, 0)...), logOf(-1, 0, termsFrom(1, 0, 0, 1)...), logOf(math.MaxInt, 0, termsFrom(1, 0, 0, 1)...), logOf(math.MinInt, 0, termsFrom(1, 0, 0, 1)...),
		logOf(0, -1), logOf(0, math.MinInt), logOf(0, 301), logOf(0, math.MaxInt), logOf(0, 1<<32), logOf(0, -1, termsFrom(1, 0)...), logOf(0, -1, termsFrom(1, -1)...), logOf(0, math.MinInt, termsFrom(1, 0, 1, 1)...),
		longLog(0, 0, 301), longLog(300, 0, 1), longLog(300, 0, 2), longLog(299, 7, 2), longLog(1, 0, 300), longLog(150, 300, 151), longLog(0, 5, 1000), longLog(1, 5, 1000),
		logOf(0, 1, termsFrom(1, 0)...), logOf(0, 300, termsFrom(1, 299)...), logOf(4, 5, termsFrom(1, 4, 5, 6)...), logOf(4, 5, termsFrom(1, 5, 6, 5)...), logOf(4, 5, termsFrom(1, 5, 7, 6, 7)...), logOf(4, 5, termsFrom(1, 9, 5)...), logOf(4, 5, termsFrom(1, 6, 7, 5)...), logOf(4, 5, termsFrom(1, 6, 7, 0)...),
		logOf(0, 0, termsFrom(1, -1)...), logOf(0, 0, termsFrom(1, 0, -1)...), logOf(0, 0, termsFrom(1, math.MinInt)...), logOf(0, 0, termsFrom(1, 0, math.MinInt, 0)...),
		logOf(0, 0, termsFrom(1, 301)...), logOf(0, 0, termsFrom(1, 5, 301)...), logOf(0, 300, termsFrom(1, 300, 301)...), logOf(0, 0, termsFrom(1, 1<<32)...), logOf(0, 0, termsFrom(1, 1, math.MaxInt)...), logOf(299, 300, termsFrom(1, 301)...),
	}
	for _, c := range wrongCmds() {
		for at := range 4 {
			l := logOf(2, 2, termsFrom(1, 2, 3, 3, 5)...)
			l.List[at].C = c
			list = append(list, l)
		}
		list = append(list, logOf(299, 0, impl.Entry{C: c}))
	}
	return append(list, logOf(-1, 301, termsFrom(0, 500, -1, 7)...), logOf(math.MaxInt, math.MinInt, termsFrom(100000, math.MaxInt, math.MinInt)...), logOf(301, 301, make([]impl.Entry, 301)...))
}

func TestLogConstants(t *testing.T) {
	if impl.MaxIndex != 300 {
		t.Error("limits")
	}
}

func TestLogOk(t *testing.T) {
	for _, l := range rightLogs() {
		checkLogOk(t, l, true)
	}
	for _, l := range wrongLogs() {
		checkLogOk(t, l, false)
	}
	for base := range 303 {
		for count := range 303 - base {
			if base%50 < 2 || count < 2 || base+count > 298 {
				checkLogOk(t, longLog(base, 3, count), base+count <= 300)
			}
		}
	}
}

// TestLogOkTerms: each Term behind each, of the base and of an entry.
func TestLogOkTerms(t *testing.T) {
	terms := []int{math.MinInt, -2, -1, 0, 1, 2, 3, 298, 299, 300, 301, 302, 1 << 32, math.MaxInt}
	for _, a := range terms {
		for _, b := range terms {
			right := a >= 0 && b >= a && b <= 300
			checkLogOk(t, logOf(5, a, termsFrom(1, b)...), right)
			checkLogOk(t, logOf(0, 0, termsFrom(1, a, b)...), right)
			checkLogOk(t, logOf(5, 0, termsFrom(1, 0, a, a, b, 300)...), right)
			checkLogOk(t, logOf(a, 0, termsFrom(1, 0)...), a >= 0 && a < 300)
			for _, c := range terms {
				checkLogOk(t, logOf(7, a, termsFrom(1, b, c)...), right && c >= b && c <= 300)
			}
		}
	}
}

func TestLastOf(t *testing.T) {
	checkLast(t, impl.Log{}, 0, 0)
	checkLast(t, logOf(7, 3), 7, 3)
	checkLast(t, logOf(300, 300), 300, 300)
	checkLast(t, logOf(0, 0, termsFrom(1, 4)...), 1, 4)
	checkLast(t, logOf(7, 3, termsFrom(1, 3, 4, 4, 6)...), 11, 6)
	checkLast(t, longLog(0, 2, 300), 300, 2)
	checkLast(t, logOf(299, 2, termsFrom(1, 300)...), 300, 300)
	// What is not right has a last one as well.
	checkLast(t, logOf(-5, -3), -5, -3)
	checkLast(t, logOf(math.MaxInt, math.MinInt), math.MaxInt, math.MinInt)
	checkLast(t, logOf(-5, 3, termsFrom(1, 9, 2)...), -3, 2)
	checkLast(t, longLog(299, 4, 50), 349, 4)
}

func TestTermAt(t *testing.T) {
	l := logOf(7, 3, termsFrom(1, 3, 4, 4, 6)...)
	for i, want := range map[int]int{math.MinInt: -1, -8: -1, -1: -1, 0: -1, 5: -1, 6: -1, 7: 3, 8: 3, 9: 4, 10: 4, 11: 6, 12: -1, 13: -1, 300: -1, 1<<32 + 8: -1, math.MaxInt: -1} {
		checkTermAt(t, l, i, want)
	}
	for i, want := range map[int]int{math.MinInt: -1, -1: -1, 0: 0, 1: -1, 2: -1, math.MaxInt: -1} {
		checkTermAt(t, impl.Log{}, i, want)
		checkTermAt(t, logOf(0, 5), i, want+min(want+1, 1)*5)
	}
	full := longLog(0, 9, 300)
	for i := -2; i <= 302; i++ {
		want := 9
		if i < 0 || i > 300 {
			want = -1
		}
		checkTermAt(t, full, i, want)
	}
	checkTermAt(t, logOf(300, 4), 300, 4)
	checkTermAt(t, logOf(300, 4), 299, -1)
	checkTermAt(t, logOf(300, 4), 301, -1)
}

func TestFrom(t *testing.T) {
	list := termsFrom(1, 3, 4, 4, 6)
	l := logOf(7, 3, list...)
	for _, i := range []int{math.MinInt, -1, 0, 1, 4, 6, 7, 12, 13, 14, 300, 1<<32 + 8, math.MaxInt} {
		checkFrom(t, l, i)
	}
	for i := 8; i <= 11; i++ {
		checkFrom(t, l, i, list[i-8:]...)
	}
	for _, i := range []int{math.MinInt, -1, 0, 1, 2, 300, math.MaxInt} {
		checkFrom(t, impl.Log{}, i)
		checkFrom(t, logOf(300, 5), i)
	}
	full := longLog(0, 9, 300)
	for i := range 303 {
		if i == 0 || i > 300 {
			checkFrom(t, full, i)
		} else {
			checkFrom(t, full, i, full.List[i-1:]...)
		}
	}
}

// TestLogAtEnds: where numbers are as small and as great as there can be, those
// alone are there that are numbers.
func TestLogAtEnds(t *testing.T) {
	list := termsFrom(1, 3, 4, 4, 6)
	ends := []int{math.MinInt, math.MinInt + 1, math.MinInt + 4, math.MinInt + 5, -5, -1, 0, 1, math.MaxInt - 4, math.MaxInt - 3, math.MaxInt - 1, math.MaxInt}
	for _, base := range ends {
		l := logOf(base, 2, list...)
		checkTermAt(t, l, base, 2)
		there := map[int]int{}
		for i := range list {
			if number := base + 1 + i; number > base {
				there[number] = i
			}
		}
		for _, i := range append([]int{base - 1, base + 1, base + 2, base + 3, base + 4, base + 5}, ends...) {
			if i == base {
				checkFrom(t, l, i)
				checkCut(t, l, i, l)
			} else if at, ok := there[i]; ok {
				checkTermAt(t, l, i, list[at].Term)
				checkFrom(t, l, i, list[at:]...)
				checkCut(t, l, i, logOf(i, list[at].Term, list[at+1:]...))
			} else {
				checkTermAt(t, l, i, -1)
				checkFrom(t, l, i)
				checkCut(t, l, i, l)
			}
		}
	}
}

// TestLogPutEmpty: to a log without entries, in one piece and in several.
func TestLogPutEmpty(t *testing.T) {
	list := termsFrom(1, 0, 1, 1, 4, 4, 9)
	for _, base := range []int{0, 1, 7, 150, 293, 294} {
		l := logOf(base, 0)
		whole := logOf(base, 0, list...)
		checkLogPut(t, l, base, 0, list, whole)
		for i := range len(list) + 1 {
			part := logOf(base, 0, list[:i]...)
			checkLogPut(t, l, base, 0, list[:i], part)
			last, term := impl.LastOf(part)
			checkLogPut(t, part, last, term, list[i:], whole)
		}
		one := l
		for i, e := range list {
			last, term := impl.LastOf(one)
			one = putOf(t, one, last, term, list[i:i+1])
			checkLast(t, one, base+1+i, e.Term)
			checkTermAt(t, one, base+1+i, e.Term)
			checkFrom(t, one, base+1+i, e)
			checkFrom(t, one, base+1, list[:i+1]...)
			checkFrom(t, one, base+2+i)
			checkFrom(t, one, base+3+i)
		}
		checkLog(t, "what is put one by one", one, whole)
	}
	checkLogPut(t, impl.Log{}, 0, 0, nil, impl.Log{})
	checkLogPut(t, logOf(300, 300), 300, 300, nil, logOf(300, 300))
	checkLogPut(t, logOf(9, 4), 9, 4, []impl.Entry{}, logOf(9, 4))
}

// TestLogPutStays: what is there already turns nothing, wherever it begins and ends,
// and whatever its command is.
func TestLogPutStays(t *testing.T) {
	list := termsFrom(1, 2, 3, 3, 5, 5, 5, 8)
	l := logOf(4, 2, list...)
	terms := []int{2, 2, 3, 3, 5, 5, 5, 8}
	for from := range len(list) + 1 {
		for to := from; to <= len(list); to++ {
			checkLogPut(t, l, 4+from, terms[from], list[from:to], l)
			others := termsFrom(500, terms[from+1:to+1]...)
			checkLogPut(t, l, 4+from, terms[from], others, l)
			// A command that is none does not come into it.
			for i := range others {
				others[i].C = cmdOf(7, 0, "\n")
			}
			checkLogPut(t, l, 4+from, terms[from], others, l)
		}
		// What reaches above it is put to it, and what stands there stays.
		more := termsFrom(600, 8, 8, 9)
		want := logOf(4, 2, slices.Concat(list, more)...)
		checkLogPut(t, l, 4+from, terms[from], slices.Concat(list[from:], more), want)
		checkLogPut(t, l, 4+from, terms[from], slices.Concat(termsFrom(500, terms[from+1:]...), more), want)
	}
}

// TestLogPutOver: an entry of another Term ends what stands there, from its own
// number on.
func TestLogPutOver(t *testing.T) {
	list := termsFrom(1, 2, 3, 3, 5, 5, 5, 8)
	l := logOf(4, 2, list...)
	terms := []int{2, 2, 3, 3, 5, 5, 5, 8}
	for from := range len(list) {
		for at := from; at < len(list); at++ {
			for term := terms[at]; term <= 9; term++ {
				if term == list[at].Term {
					continue
				}
				for _, behind := range [][]int{nil, {term}, {9, 9}, {300}, {term, 9, 9, 9, 9, 9, 9, 9, 9, 9}} {
					same := termsFrom(500, terms[from+1:at+1]...)
					other := termsFrom(600, append([]int{term}, behind...)...)
					want := logOf(4, 2, slices.Concat(list[:at], other)...)
					checkLogPut(t, l, 4+from, terms[from], slices.Concat(same, other), want)
				}
			}
			// The same entries behind one of another Term are no more, too.
			if list[at].Term < 8 {
				other := slices.Concat(termsFrom(600, list[at].Term+1), termsFrom(700, 8, 8, 8))
				got := putOf(t, l, 4+from, terms[from], slices.Concat(list[from:at], other))
				checkLast(t, got, 4+at+4, 8)
				checkFrom(t, got, 5+at, other...)
			}
		}
	}
}

// TestLogPutShort: a list that ends in the middle leaves what stands behind it,
// but where an entry of it has another Term.
func TestLogPutShort(t *testing.T) {
	l := logOf(0, 0, termsFrom(1, 1, 1, 2, 2, 3)...)
	checkLogPut(t, l, 0, 0, termsFrom(50, 1, 1), l)
	checkLogPut(t, l, 1, 1, termsFrom(50, 1), l)
	checkLogPut(t, l, 2, 1, termsFrom(50, 2), l)
	checkLogPut(t, l, 2, 1, termsFrom(50, 1), logOf(0, 0, slices.Concat(l.List[:2], termsFrom(50, 1))...))
	checkLogPut(t, l, 2, 1, termsFrom(50, 3), logOf(0, 0, slices.Concat(l.List[:2], termsFrom(50, 3))...))
	checkLogPut(t, l, 0, 0, termsFrom(50, 0), logOf(0, 0, termsFrom(50, 0)...))
	checkLogPut(t, l, 0, 0, termsFrom(50, 300), logOf(0, 0, termsFrom(50, 300)...))
	for prev, term := range []int{0, 1, 1, 2, 2, 3} {
		checkLogPut(t, l, prev, term, nil, l)
	}
}

// TestLogPutPrev: what is put behind must be there, of that Term.
func TestLogPutPrev(t *testing.T) {
	l := logOf(7, 3, termsFrom(1, 3, 4, 4, 6)...)
	there := map[int]int{7: 3, 8: 3, 9: 4, 10: 4, 11: 6}
	lists := [][]impl.Entry{nil, {}, termsFrom(1, 6), termsFrom(1, 6, 6, 300), termsFrom(9, 7, 8, 9), termsFrom(9, 2)}
	for _, prev := range []int{math.MinInt, -7, -1, 0, 1, 6, 7, 8, 9, 10, 11, 12, 13, 299, 300, 301, 1<<32 + 8, math.MaxInt - 1, math.MaxInt} {
		for _, term := range []int{math.MinInt, -2, -1, 0, 1, 2, 3, 4, 5, 6, 7, 299, 300, 301, math.MaxInt} {
			for _, list := range lists {
				if want, ok := there[prev]; !ok || want != term {
					checkNoPut(t, l, prev, term, list)
				} else if len(list) > 0 && list[0].Term == 2 {
					checkNoPut(t, l, prev, term, list)
				} else if len(list) == 1 && prev == 7 {
					checkLogPut(t, l, prev, term, list, logOf(7, 3, list...))
				} else {
					putOf(t, l, prev, term, list)
				}
			}
			if prev == 0 && term == 0 {
				checkLogPut(t, impl.Log{}, prev, term, lists[4], logOf(0, 0, lists[4]...))
			} else {
				checkNoPut(t, impl.Log{}, prev, term, lists[4])
				checkNoPut(t, impl.Log{}, prev, term, nil)
			}
		}
	}
}

// TestLogPutMost: a log that a list fills, and one more.
func TestLogPutMost(t *testing.T) {
	for _, base := range []int{0, 1, 100, 298, 299, 300} {
		for have := range 301 - base {
			if have > 3 && base+have < 297 {
				continue
			}
			l := longLog(base, 5, have)
			room := 300 - base - have
			for _, count := range []int{0, 1, room - 1, room, room + 1, room + 2, 300, 301, 5000} {
				list := termsFrom(400, slices.Repeat([]int{5}, max(count, 0))...)
				if len(list) <= room {
					checkLogPut(t, l, base+have, 5, list, logOf(base, 5, slices.Concat(l.List, list)...))
				} else {
					checkNoPut(t, l, base+have, 5, list)
				}
				// Of what is there already it is not more for it.
				again := slices.Concat(l.List, list)
				if len(list) <= room {
					checkLogPut(t, l, base, 5, again, logOf(base, 5, again...))
				} else {
					checkNoPut(t, l, base, 5, again)
				}
			}
		}
	}
	full := longLog(0, 5, 300)
	checkLogPut(t, full, 299, 5, termsFrom(400, 6), logOf(0, 5, slices.Concat(full.List[:299], termsFrom(400, 6))...))
	checkNoPut(t, full, 299, 5, termsFrom(400, 6, 6))
	checkNoPut(t, full, 300, 5, termsFrom(400, 5))
	checkLogPut(t, full, 300, 5, nil, full)
	checkLogPut(t, full, 0, 5, termsFrom(400, 6), logOf(0, 5, termsFrom(400, 6)...))
}

// TestLogPutTerms: what would not ascend, or has a Term above the greatest, is not
// put, and nothing of it.
func TestLogPutTerms(t *testing.T) {
	l := logOf(4, 2, termsFrom(1, 2, 3, 3, 5)...)
	for _, terms := range [][]int{{4}, {-1}, {math.MinInt}, {301}, {math.MaxInt}, {5, 4}, {5, 6, 5}, {6, 7, 301}, {5, 5, -1}, {300, 299}, {0}, {5, 1<<32 + 5}} {
		list := termsFrom(50, terms...)
		checkNoPut(t, l, 8, 5, list)
		checkNoPut(t, l, 4, 2, slices.Concat(l.List, list))
		checkNoPut(t, l, 6, 3, slices.Concat(l.List[2:], list))
	}
	for _, terms := range [][]int{{5}, {300}, {5, 5}, {6, 7, 300}, {300, 300}} {
		putOf(t, l, 8, 5, termsFrom(50, terms...))
	}
	// In the middle: less than the one ahead of it, which stands there or is of the list.
	checkNoPut(t, l, 4, 2, termsFrom(50, 1))
	checkNoPut(t, l, 4, 2, termsFrom(50, 2, 1))
	checkNoPut(t, l, 4, 2, termsFrom(50, 2, 3, 2))
	checkNoPut(t, l, 6, 3, termsFrom(50, 2))
	checkNoPut(t, l, 6, 3, termsFrom(50, 3, 2))
	checkNoPut(t, l, 7, 3, termsFrom(50, 2))
	checkNoPut(t, l, 7, 3, termsFrom(50, 4, 3))
	checkNoPut(t, l, 4, 2, termsFrom(50, 2, 301))
	checkLogPut(t, l, 7, 3, termsFrom(50, 4), logOf(4, 2, slices.Concat(l.List[:3], termsFrom(50, 4))...))
	checkLogPut(t, l, 6, 3, termsFrom(50, 3, 3), logOf(4, 2, slices.Concat(l.List[:3], termsFrom(51, 3))...))
	// The base alone is ahead.
	checkNoPut(t, logOf(4, 2), 4, 2, termsFrom(50, 1))
	checkLogPut(t, logOf(4, 2), 4, 2, termsFrom(50, 2), logOf(4, 2, termsFrom(50, 2)...))
}

// TestLogPutWrongCmds: a command that is none is not put, wherever it stands in
// the list, but where what stands there stays.
func TestLogPutWrongCmds(t *testing.T) {
	l := logOf(4, 2, termsFrom(1, 2, 3, 3, 5)...)
	for _, c := range wrongCmds() {
		for at := range 3 {
			list := termsFrom(50, 6, 6, 7)
			list[at].C = c
			checkNoPut(t, l, 8, 5, list)
			checkNoPut(t, l, 8, 5, list[:at+1])
			checkNoPut(t, l, 7, 3, list)
			checkNoPut(t, l, 4, 2, list)
			checkNoPut(t, l, 4, 2, slices.Concat(l.List, list))
		}
		list := termsFrom(50, 2, 3, 3, 6)
		list[3].C = c
		checkNoPut(t, l, 4, 2, list)
		list[3].Term, list[0].C, list[2].C = 5, c, c
		checkLogPut(t, l, 4, 2, list, l)
		checkNoPut(t, logOf(4, 2), 4, 2, list)
	}
}

// TestLogPutWrong: to what is not right nothing is put, not even what would end
// what is wrong of it.
func TestLogPutWrong(t *testing.T) {
	lists := [][]impl.Entry{nil, termsFrom(1, 0), termsFrom(1, 2, 3), termsFrom(1, 300), termsFrom(1, 301), {{}}}
	for _, l := range wrongLogs() {
		numbers := []int{l.Base, l.Base + 1, l.Base + len(l.List), -1, 0, 1, 3, 301, math.MinInt, math.MaxInt}
		for _, prev := range numbers {
			for _, term := range []int{impl.TermAt(l, prev), l.BaseTerm, -1, 0, 2} {
				for _, list := range lists {
					checkNoPut(t, l, prev, term, list)
				}
			}
		}
	}
}

func TestLogCut(t *testing.T) {
	list := termsFrom(1, 3, 4, 4, 6)
	l := logOf(7, 3, list...)
	for i, e := range list {
		got := checkCut(t, l, 8+i, logOf(8+i, e.Term, list[i+1:]...))
		checkLogOk(t, got, true)
		checkLast(t, got, 11, 6)
		for at := range 14 {
			want := impl.TermAt(l, at)
			if at < 8+i {
				want = -1
			}
			checkTermAt(t, got, at, want)
			if at > 8+i {
				checkFrom(t, got, at, impl.From(l, at)...)
			} else {
				checkFrom(t, got, at)
			}
		}
		for j := i; j < len(list); j++ {
			checkCut(t, got, 8+j, logOf(8+j, list[j].Term, list[j+1:]...))
		}
	}
	for _, i := range []int{math.MinInt, -1, 0, 1, 6, 7, 12, 13, 300, 301, 1<<32 + 8, math.MaxInt} {
		checkCut(t, l, i, l)
		checkCut(t, impl.Log{}, i, impl.Log{})
		checkCut(t, logOf(300, 9), i, logOf(300, 9))
	}
	full := longLog(0, 9, 300)
	for i := range 303 {
		if i == 0 || i > 300 {
			checkCut(t, full, i, full)
		} else {
			checkCut(t, full, i, logOf(i, 9, full.List[i:]...))
		}
	}
}

// TestLogCutThenPut: behind a new base there is put as before.
func TestLogCutThenPut(t *testing.T) {
	list := termsFrom(1, 3, 4, 4, 6)
	more := termsFrom(50, 7, 8)
	for i, e := range list {
		l := impl.LogCut(logOf(7, 3, list...), 8+i)
		checkLogPut(t, l, 11, 6, more, logOf(8+i, e.Term, slices.Concat(list[i+1:], more)...))
		checkLogPut(t, l, 8+i, e.Term, more, logOf(8+i, e.Term, more...))
		checkLogPut(t, l, 8+i, e.Term, list[i+1:], l)
		checkNoPut(t, l, 7+i, impl.TermAt(logOf(7, 3, list...), 7+i), list[i:])
		checkNoPut(t, l, 7, 3, list)
	}
	// The room is that of numbers, not of entries.
	full := longLog(0, 9, 300)
	for _, i := range []int{1, 150, 299, 300} {
		cut := impl.LogCut(full, i)
		checkNoPut(t, cut, 300, 9, termsFrom(400, 9))
		checkLogPut(t, cut, 300, 9, nil, cut)
		checkLogPut(t, cut, i, 9, slices.Repeat(termsFrom(400, 10), 300-i), logOf(i, 9, slices.Repeat(termsFrom(400, 10), 300-i)...))
	}
}

func TestNewer(t *testing.T) {
	for _, l := range []impl.Log{logOf(7, 3, termsFrom(1, 3, 4, 4, 6)...), logOf(11, 6), logOf(0, 0, termsFrom(1, 0, 0, 0, 0, 0, 0, 0, 0, 0, 0, 6)...)} {
		for _, last := range []int{math.MinInt, -1, 0, 1, 7, 10, 11, 12, 300, 301, math.MaxInt} {
			for _, term := range []int{math.MinInt, -1, 0, 3, 5} {
				checkNewer(t, l, last, term, false)
			}
			checkNewer(t, l, last, 6, last > 10)
			for _, term := range []int{7, 300, 301, math.MaxInt} {
				checkNewer(t, l, last, term, true)
			}
		}
	}
	for _, last := range []int{-1, 0, 1} {
		checkNewer(t, impl.Log{}, last, 0, last != -1)
		checkNewer(t, impl.Log{}, last, 1, true)
		checkNewer(t, impl.Log{}, last, -1, false)
		checkNewer(t, logOf(0, 2), last, 2, last != -1)
		checkNewer(t, logOf(-1, -1), last, -1, true)
		checkNewer(t, logOf(1, -1), last, -1, last == 1)
	}
	for _, l := range rightLogs() {
		last, term := impl.LastOf(l)
		checkNewer(t, l, last, term, true)
		checkNewer(t, l, last-1, term, false)
		checkNewer(t, l, last+1, term, true)
		checkNewer(t, l, last-1, term+1, true)
		checkNewer(t, l, last+1, term-1, false)
	}
}

func cloneLog(l impl.Log) impl.Log {
	l.List = slices.Clone(l.List)
	return l
}

// spoiltEntries writes over a list, and its spare room.
func spoiltEntries(list []impl.Entry) {
	for i := range list[:cap(list)] {
		list[:cap(list)][i] = impl.Entry{Term: -8, C: cmdOf(-8, -8, "spoilt")}
	}
}

// checkOwnEntries asks for the same list twice, and that neither of them, nor what
// was handed in, turns when the other one is written over.
func checkOwnEntries(t *testing.T, ask func() []impl.Entry) {
	t.Helper()
	first, second := ask(), ask()
	kept := slices.Clone(second)
	spoiltEntries(first)
	if !slices.Equal(second, kept) || !slices.Equal(ask(), kept) {
		t.Errorf("there is %s behind what is written over, and %s once more; want %s", shownEntries(second), shownEntries(ask()), shownEntries(kept))
	}
}

// TestLogWritesNothing: neither into what is handed in nor behind it; what is told
// is memory of its own.
func TestLogWritesNothing(t *testing.T) {
	room := impl.Entry{Term: 77, C: cmdOf(1, 777, "room")}
	lists := [][]impl.Entry{nil, termsFrom(50, 2, 3), termsFrom(50, 3, 3, 9), termsFrom(50, 300), termsFrom(50, 0), {{}}}
	for _, l := range append(rightLogs(), wrongLogs()...) {
		cut, whole := l, l
		cut.List, whole.List = withRoom(l.List, room)
		before := cloneLog(whole)
		impl.LogOk(cut)
		impl.LastOf(cut)
		for i := -1; i <= len(l.List)+2; i++ {
			if i > 6 && i < len(l.List)-3 {
				continue
			}
			at := l.Base + i
			impl.TermAt(cut, at)
			impl.Newer(cut, at, l.BaseTerm)
			checkOwnEntries(t, func() []impl.Entry { return impl.From(cut, at) })
			checkOwnEntries(t, func() []impl.Entry { return impl.LogCut(cut, at).List })
			for _, entries := range lists {
				list, wholeList := withRoom(entries, room)
				beforeList := slices.Clone(wholeList)
				for _, term := range []int{impl.TermAt(cut, at), -1} {
					checkOwnEntries(t, func() []impl.Entry { got, _ := impl.LogPut(cut, at, term, list); return got.List })
				}
				got, _ := impl.LogPut(cut, at, impl.TermAt(cut, at), list)
				kept := cloneLog(got)
				spoiltEntries(list)
				checkLog(t, "what was put, behind the list", got, kept)
				copy(wholeList, beforeList)
				got, _ = impl.LogPut(cut, at, impl.TermAt(cut, at), list)
				spoiltEntries(cut.List)
				checkLog(t, "what was put, behind the log", got, kept)
				copy(whole.List, before.List)
				if !slices.Equal(wholeList, beforeList) {
					t.Errorf("something is written into %s", shownEntries(wholeList))
				}
			}
		}
		checkLog(t, "what was handed in", whole, before)
	}
}

// TestLogNotWritten: with what is handed in never written over by the test itself.
func TestLogNotWritten(t *testing.T) {
	room := impl.Entry{Term: 77, C: cmdOf(1, 777, "room")}
	for _, l := range append(rightLogs(), wrongLogs()...) {
		cut, whole := l, l
		cut.List, whole.List = withRoom(l.List, room)
		before := cloneLog(whole)
		for _, entries := range [][]impl.Entry{nil, termsFrom(50, 2, 3), termsFrom(50, 3, 3, 9), termsFrom(50, 300), {{}}} {
			list, wholeList := withRoom(entries, room)
			beforeList := slices.Clone(wholeList)
			for i := -1; i <= min(len(l.List), 7)+2; i++ {
				spoiltEntries(impl.From(cut, l.Base+i))
				spoiltEntries(impl.LogCut(cut, l.Base+i).List)
				got, _ := impl.LogPut(cut, l.Base+i, impl.TermAt(cut, l.Base+i), list)
				spoiltEntries(got.List)
				got, _ = impl.LogPut(cut, l.Base+i, -1, list)
				spoiltEntries(got.List)
				checkLog(t, "what was handed in", whole, before)
				if !slices.Equal(wholeList, beforeList) {
					t.Errorf("something is written into %s", shownEntries(wholeList))
				}
			}
		}
	}
}

// TestLogSoon: of lists that are much too long, and of long lines.
func TestLogSoon(t *testing.T) {
	list := slices.Repeat(termsFrom(1, 5), 3000000)
	line := strings.Repeat("l", 5000000)
	for range 300 {
		checkLogOk(t, logOf(0, 5, list...), false)
		checkNoPut(t, longLog(0, 5, 300), 0, 5, list)
		checkNoPut(t, longLog(0, 5, 10), 10, 5, list)
		checkNoPut(t, logOf(0, 5), 0, 5, []impl.Entry{{Term: 5, C: cmdOf(0, 1, line)}})
		checkNoPut(t, logOf(0, 5, list...), 0, 5, list)
	}
	full := longLog(0, 5, 300)
	for range 30 {
		for i := range 301 {
			checkLogPut(t, full, i, 5, full.List[i:], full)
		}
	}
}
