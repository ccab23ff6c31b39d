package tests

import (
	"fmt"
	"math/rand"
	"slices"
	"testing"

	"loop.example/g00289/impl"
)

// The tests of this file hold a log against its entries by number, in a map from
// which what stands behind is taken away one by one.

type logMeant struct {
	base, term int
	there      map[int]impl.Entry
}

func meantOf(l impl.Log) logMeant {
	m := logMeant{l.Base, l.BaseTerm, map[int]impl.Entry{}}
	for i, e := range l.List {
		m.there[l.Base+1+i] = e
	}
	return m
}

func (m logMeant) log() impl.Log {
	l := logOf(m.base, m.term)
	for i := m.base + 1; ; i++ {
		e, ok := m.there[i]
		if !ok {
			return l
		}
		l.List = append(l.List, e)
	}
}

func (m logMeant) last() (int, int) {
	i := m.base
	for range m.there {
		i++
	}
	return i, m.termAt(i)
}

func (m logMeant) termAt(i int) int {
	if e, ok := m.there[i]; ok {
		return e.Term
	}
	if i == m.base {
		return m.term
	}
	return -1
}

// right has the words of the document the other way round.
func (m logMeant) right() bool {
	if m.base < 0 || m.term < 0 || m.term > 300 || m.base+len(m.there) > 300 {
		return false
	}
	for i, e := range m.there {
		if !rightCmd(e.C) || e.Term < m.termAt(i-1) || e.Term > 300 {
			return false
		}
	}
	return true
}

func (m logMeant) put(prev int, list []impl.Entry) {
	for i, e := range list {
		at := prev + 1 + i
		if old, ok := m.there[at]; ok && old.Term == e.Term {
			continue
		}
		for behind := range m.there {
			if behind >= at {
				delete(m.there, behind)
			}
		}
		m.there[at] = e
	}
}

// putMeant is what LogPut is to answer.
func putMeant(l impl.Log, prev int, term int, list []impl.Entry) (impl.Log, bool) {
	m := meantOf(l)
	if !m.right() {
		return impl.Log{}, false
	}
	_, isThere := m.there[prev]
	if term < 0 || !isThere && prev != m.base || m.termAt(prev) != term {
		return l, false
	}
	m.put(prev, list)
	if !m.right() {
		return l, false
	}
	return m.log(), true
}

func newerMeant(l impl.Log, last int, term int) bool {
	ownLast, ownTerm := meantOf(l).last()
	return !(term < ownTerm || term == ownTerm && last < ownLast)
}

// checkMeantLog asks what stands under each number, and behind it.
func checkMeantLog(t *testing.T, l impl.Log) {
	t.Helper()
	m := meantOf(l)
	checkLogOk(t, l, m.right())
	last, term := m.last()
	checkLast(t, l, last, term)
	for i := l.Base - 2; i <= last+3; i++ {
		checkTermAt(t, l, i, m.termAt(i))
		var behind []impl.Entry
		for at := i; i > l.Base && at <= last; at++ {
			behind = append(behind, m.there[at])
		}
		checkFrom(t, l, i, behind...)
		if _, ok := m.there[i]; ok {
			checkCut(t, l, i, logMeant{i, m.termAt(i), m.there}.log())
		} else {
			checkCut(t, l, i, l)
		}
		for by := -1; by <= 1; by++ {
			checkNewer(t, l, i, term+by, newerMeant(l, i, term+by))
		}
	}
}

func checkMeantPut(t *testing.T, l impl.Log, prev int, term int, list []impl.Entry) (impl.Log, bool) {
	t.Helper()
	want, ok := putMeant(l, prev, term, list)
	if !ok {
		checkNoPut(t, l, prev, term, list)
	} else {
		checkLogPut(t, l, prev, term, list, want)
	}
	return want, ok
}

// termsByChance ascend, but for a few.
func termsByChance(chance *rand.Rand, term int, most int) []int {
	var list []int
	for range chance.Intn(most + 1) {
		term += chance.Intn(2) * chance.Intn(3)
		list = append(list, term-chance.Intn(8)/7*chance.Intn(3))
	}
	return list
}

// entriesByChance are mostly right.
func entriesByChance(chance *rand.Rand, term int, most int) []impl.Entry {
	list := termsFrom(1+chance.Intn(1000), termsByChance(chance, term, most)...)
	for i := range list {
		if chance.Intn(25) == 0 {
			list[i].C = someOf(chance, cmdOf(-1, 0, ""), cmdOf(-1, 0, ""), cmdOf(-1, 1, ""), cmdOf(2, 5, "a\n"))
		}
	}
	return list
}

func logByChance(chance *rand.Rand) impl.Log {
	base := someOf(chance, 0, 0, 1, 5, 290, 295, 299, 300, -1)
	term := someOf(chance, 0, 1, 4, 297, 300)
	return logOf(base, term, entriesByChance(chance, term, 8)...)
}

// TestLogsByChance: logs right and wrong.
func TestLogsByChance(t *testing.T) {
	chance := rand.New(rand.NewSource(180))
	right := 0
	for range 5000 {
		l := logByChance(chance)
		checkMeantLog(t, l)
		if impl.LogOk(l) {
			right++
		}
	}
	if right < 500 || right > 4500 {
		t.Errorf("%d of 5000 are right", right)
	}
	for _, l := range append(rightLogs(), wrongLogs()...) {
		if -400 < l.Base && l.Base < 400 && len(l.List) < 310 {
			checkMeantLog(t, l)
		}
	}
}

// TestLogPutByChance is promise 18 of logs and lists by chance: some lists have
// what stands there, with other commands, and turn from it anywhere.
func TestLogPutByChance(t *testing.T) {
	chance := rand.New(rand.NewSource(181))
	done, over, stays := 0, 0, 0
	for range 60000 {
		l := logByChance(chance)
		m := meantOf(l)
		prev := l.Base + chance.Intn(len(l.List)+3) - 1
		term := m.termAt(prev) + chance.Intn(10)/9*(chance.Intn(3)-1)
		var list []impl.Entry
		for at := prev + 1; at <= l.Base+len(l.List) && at > l.Base && chance.Intn(5) > 0; at++ {
			list = append(list, someOf(chance, m.there[at], impl.Entry{Term: m.termAt(at), C: cmdOf(0, 9, "other")}))
		}
		if chance.Intn(2) == 0 {
			list = append(list, entriesByChance(chance, max(m.termAt(prev+len(list)), 0), 6)...)
		}
		got, ok := checkMeantPut(t, l, prev, term, list)
		if !ok {
			continue
		}
		done++
		if len(got.List) < len(l.List) || !slices.Equal(got.List[:len(l.List)], l.List) {
			over++
		}
		if sameLog(got, l) && len(list) > 0 {
			stays++
		}
	}
	if done < 10000 || over < 500 || stays < 1000 {
		t.Errorf("%d are put, %d of them end what stood there, %d turn nothing", done, over, stays)
	}
}

// TestLogPutEach: each short list to each short log, behind each number.
func TestLogPutEach(t *testing.T) {
	var rows [][]int
	var grow func(terms []int)
	grow = func(terms []int) {
		rows = append(rows, terms)
		for term := range 3 {
			if len(terms) < 3 {
				grow(append(slices.Clone(terms), term))
			}
		}
	}
	grow(nil)
	for _, base := range []int{0, 298} {
		for _, baseTerm := range []int{0, 1} {
			for _, terms := range rows {
				l := logOf(base, baseTerm, termsFrom(1, terms...)...)
				for _, more := range rows {
					for prev := base - 1; prev <= base+4; prev++ {
						checkMeantPut(t, l, prev, impl.TermAt(l, prev), termsFrom(50, more...))
					}
				}
			}
		}
	}
}

// TestLogOfMany is promise 18 of many lists one behind the other, with cuts: logs
// that are told the same in other pieces are the same.
func TestLogOfMany(t *testing.T) {
	chance := rand.New(rand.NewSource(182))
	cuts, ends := 0, 0
	for range 300 {
		terms := make([]int, 5+chance.Intn(60))
		for i := range terms {
			terms[i] = chance.Intn(10)
		}
		slices.Sort(terms)
		whole := termsFrom(1, terms...)
		all, l := logOf(0, 0, whole...), impl.Log{}
		for range 200 {
			last, _ := impl.LastOf(l)
			prev := l.Base + chance.Intn(last-l.Base+1)
			list := slices.Clone(whole[min(prev, len(whole)):min(prev+chance.Intn(9), len(whole))])
			if chance.Intn(6) == 0 && len(list) > 0 {
				list[len(list)-1] = impl.Entry{Term: list[len(list)-1].Term + 1, C: cmdOf(1, 99, "lost")}
			}
			l, _ = checkMeantPut(t, l, prev, impl.TermAt(l, prev), list)
			// A base is of what is not lost again.
			cut := l.Base + chance.Intn(3)
			if e, ok := meantOf(l).there[cut]; ok && e == whole[cut-1] && chance.Intn(10) == 0 {
				l = checkCut(t, l, cut, logMeant{cut, e.Term, meantOf(l).there}.log())
				cuts++
			}
		}
		l, _ = checkMeantPut(t, l, l.Base, l.BaseTerm, whole[l.Base:])
		checkLog(t, fmt.Sprint("the log of many lists, behind ", l.Base), l, impl.LogCut(all, l.Base))
		if l.Base > 0 && len(l.List) > 5 {
			ends++
		}
	}
	if cuts < 300 || ends < 100 {
		t.Errorf("%d cuts, %d logs that are cut and have entries", cuts, ends)
	}
}
