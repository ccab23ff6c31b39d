package tests

import (
	"fmt"
	"math"
	"math/rand"
	"slices"
	"sort"
	"strings"
	"testing"

	"loop.example/g00289/impl"
)

func cellOf(name int, key string, v impl.Val) impl.Cell {
	return impl.Cell{Name: name, Key: key, Val: v}
}

// cellAt has a value that no cell of another Name or Key has.
func cellAt(name int, key string) impl.Cell {
	return cellOf(name, key, valText(fmt.Sprintf("%d %.9s", name, key)))
}

func stateOf(cells ...impl.Cell) impl.State { return impl.State{Cells: cells} }

func shownState(s impl.State) string {
	var shown strings.Builder
	fmt.Fprintf(&shown, "Nr %d, Err %d, %d vars:", s.Nr, s.Err, len(s.Vars))
	for _, v := range s.Vars {
		shown.WriteString(" " + shownVal(v))
	}
	fmt.Fprintf(&shown, ", %d cells:", len(s.Cells))
	for _, c := range s.Cells {
		fmt.Fprintf(&shown, " %d[%.20q] %s", c.Name, c.Key, shownVal(c.Val))
	}
	return shown.String()
}

func sameState(a impl.State, b impl.State) bool {
	return a.Nr == b.Nr && a.Err == b.Err && slices.Equal(a.Vars, b.Vars) && slices.Equal(a.Cells, b.Cells)
}

func checkState(t *testing.T, what string, got impl.State, want impl.State) {
	t.Helper()
	if !sameState(got, want) {
		t.Errorf("%s is %s; want %s", what, shownState(got), shownState(want))
	}
}

// manyCells are in order, one half of them of Name 0, the other one of Name 1.
func manyCells(count int) []impl.Cell {
	var list []impl.Cell
	for i := range count {
		list = append(list, cellAt(i*2/max(count, 1), fmt.Sprintf("k%02d", i)))
	}
	return list
}

func TestStateConstants(t *testing.T) {
	if impl.MaxCells != 40 || impl.MaxLines != 1000000 {
		t.Error("limits")
	}
	codes := []int{impl.ErNone, impl.ErNum, impl.ErZero, impl.ErLong, impl.ErRoom, impl.ErOut, impl.ErFuel, impl.ErStack}
	for i, code := range codes {
		if code != i {
			t.Errorf("code %d is %d", i, code)
		}
	}
}

// stateCase is a state and how many vars and lists there are.
type stateCase struct {
	s           impl.State
	vars, lists int
}

func checkStateOk(t *testing.T, c stateCase, want bool) {
	t.Helper()
	if got := impl.StateOk(c.s, c.vars, c.lists); got != want {
		t.Errorf("StateOk(%s; %d, %d) = %v", shownState(c.s), c.vars, c.lists, got)
	}
}

// rightStates are without vars and cells, with some of each, and at the limits.
func rightStates() []stateCase {
	long := strings.Repeat("k", 300)
	list := []stateCase{
		{impl.State{}, 0, 0}, {impl.State{}, 0, 1}, {impl.State{}, 0, 9}, {impl.State{}, 0, -1}, {impl.State{}, 0, math.MinInt}, {impl.State{}, 0, math.MaxInt},
		{impl.State{Vars: []impl.Val{}, Cells: []impl.Cell{}}, 0, 0},
		{impl.State{Vars: []impl.Val{valNone}}, 1, 0}, {impl.State{Vars: []impl.Val{valNum(5), valText("a"), valLook(one, "1"), valNone}}, 4, 0},
		{impl.State{Vars: rightVals()}, len(rightVals()), 2},
		{stateOf(cellAt(0, "")), 0, 1}, {stateOf(cellAt(0, "a")), 0, 5}, {stateOf(cellAt(4, "a")), 0, 5}, {stateOf(cellAt(math.MaxInt-1, "a")), 0, math.MaxInt},
		{stateOf(cellAt(0, long)), 0, 1}, {stateOf(cellAt(0, long[:299]), cellAt(0, long)), 0, 1}, {stateOf(cellAt(0, ""), cellAt(0, "\x00"), cellAt(0, "\x00\x00"), cellAt(0, "a"), cellAt(0, "a\x00"), cellAt(0, "aa"), cellAt(0, "b"), cellAt(0, "\xff")), 0, 1},
		{stateOf(cellAt(0, "z"), cellAt(1, ""), cellAt(1, "a"), cellAt(7, "a")), 0, 8}, {stateOf(cellAt(0, "10"), cellAt(0, "9"), cellAt(0, "Z"), cellAt(0, "a"), cellAt(0, "\xc3"), cellAt(0, "\u00e9")), 0, 1},
		{stateOf(cellOf(0, "a", valNone), cellOf(0, "b", valNum(top)), cellOf(0, "c", valText(long)), cellOf(0, "d", valLook(-one, " -1 "))), 0, 1},
		{impl.State{Nr: 1}, 0, 0}, {impl.State{Nr: 999999}, 0, 0}, {impl.State{Nr: 1000000}, 0, 0}, {impl.State{Nr: 1000000, Err: 7}, 0, 0},
		{impl.State{Vars: []impl.Val{valNum(1), valNum(2)}, Cells: []impl.Cell{cellAt(0, "a"), cellAt(1, "a")}, Nr: 12, Err: 3}, 2, 2},
	}
	for code := range 8 {
		list = append(list, stateCase{impl.State{Err: code}, 0, 0})
	}
	for _, count := range []int{1, 2, 39, 40} {
		list = append(list, stateCase{stateOf(manyCells(count)...), 0, 2})
	}
	return list
}

func TestStateOkRight(t *testing.T) {
	for _, c := range rightStates() {
		checkStateOk(t, c, true)
	}
}

// wrongStates are wrong in one way each.
func wrongStates() []stateCase {
	long := strings.Repeat("k", 301)
	list := []stateCase{
		// As many vars.
		{impl.State{}, 1, 0}, {impl.State{}, -1, 0}, {impl.State{}, math.MinInt, 0}, {impl.State{}, math.MaxInt, 0}, {impl.State{Vars: []impl.Val{valNone}}, 0, 0}, {impl.State{Vars: []impl.Val{valNone}}, 2, 0}, {impl.State{Vars: []impl.Val{valNone}}, -1, 0},
		{impl.State{Vars: make([]impl.Val, 8)}, 7, 0}, {impl.State{Vars: make([]impl.Val, 8)}, 9, 0}, {impl.State{Vars: make([]impl.Val, 1, 2)}, 2, 0},
		// Names.
		{stateOf(cellAt(0, "a")), 0, 0}, {stateOf(cellAt(0, "a")), 0, -1}, {stateOf(cellAt(-1, "a")), 0, 1}, {stateOf(cellAt(1, "a")), 0, 1}, {stateOf(cellAt(2, "a")), 0, 1}, {stateOf(cellAt(math.MinInt, "a")), 0, 8}, {stateOf(cellAt(math.MaxInt, "a")), 0, math.MaxInt}, {stateOf(cellAt(-1, "a")), 0, -1},
		{stateOf(cellAt(0, "a"), cellAt(8, "a")), 0, 8}, {stateOf(cellAt(-1, "a"), cellAt(0, "a")), 0, 8},
		// Order.
		{stateOf(cellAt(1, "a"), cellAt(0, "b")), 0, 2}, {stateOf(cellAt(1, "b"), cellAt(0, "a")), 0, 2}, {stateOf(cellAt(0, "b"), cellAt(0, "a")), 0, 1}, {stateOf(cellAt(0, "a"), cellAt(0, "")), 0, 1}, {stateOf(cellAt(0, "ab"), cellAt(0, "a")), 0, 1},
		{stateOf(cellAt(0, "a"), cellAt(0, "Z")), 0, 1}, {stateOf(cellAt(0, "\xff"), cellAt(0, "a")), 0, 1}, {stateOf(cellAt(0, "9"), cellAt(0, "10")), 0, 1}, {stateOf(cellAt(0, "b"), cellAt(1, "a"), cellAt(0, "c")), 0, 2}, {stateOf(cellAt(0, "a"), cellAt(0, "c"), cellAt(0, "b")), 0, 1},
		// Twice.
		{stateOf(cellAt(0, "a"), cellAt(0, "a")), 0, 1}, {stateOf(cellOf(0, "a", valNum(1)), cellOf(0, "a", valNum(2))), 0, 1}, {stateOf(cellAt(0, ""), cellAt(0, "")), 0, 1}, {stateOf(cellAt(0, "a"), cellAt(1, "a"), cellOf(1, "a", valNone)), 0, 2}, {stateOf(cellOf(0, "a", valNum(1)), cellAt(0, "b"), cellOf(0, "a", valNum(2))), 0, 1},
		// Keys.
		{stateOf(cellAt(0, long)), 0, 1}, {stateOf(cellAt(0, "a"), cellAt(0, strings.Repeat("k", 5000))), 0, 1}, {stateOf(cellAt(0, long), cellAt(0, "l")), 0, 1},
		// How many.
		{stateOf(manyCells(41)...), 0, 2}, {stateOf(manyCells(80)...), 0, 2},
		// Numbers.
		{impl.State{Nr: -1}, 0, 0}, {impl.State{Nr: 1000001}, 0, 0}, {impl.State{Nr: math.MinInt}, 0, 0}, {impl.State{Nr: math.MaxInt}, 0, 0}, {impl.State{Nr: 1<<32 + 5}, 0, 0},
		{impl.State{Err: -1}, 0, 0}, {impl.State{Err: 8}, 0, 0}, {impl.State{Err: math.MinInt}, 0, 0}, {impl.State{Err: math.MaxInt}, 0, 0}, {impl.State{Err: 1 << 32}, 0, 0},
	}
	for _, v := range wrongVals() {
		list = append(list,
			stateCase{impl.State{Vars: []impl.Val{v}}, 1, 0}, stateCase{impl.State{Vars: []impl.Val{valNone, valNum(3), v}}, 3, 0}, stateCase{impl.State{Vars: []impl.Val{v, valNone}}, 2, 0},
			stateCase{stateOf(cellOf(0, "a", v)), 0, 1}, stateCase{stateOf(cellAt(0, "a"), cellOf(1, "", v)), 0, 2}, stateCase{stateOf(cellOf(0, "a", v), cellAt(1, "a")), 0, 2})
	}
	return list
}

func TestStateOkWrong(t *testing.T) {
	for _, c := range wrongStates() {
		checkStateOk(t, c, false)
	}
}

// TestStateOkEachPart: a state of right parts is right, one with a part that is
// wrong is not, whatever the others are.
func TestStateOkEachPart(t *testing.T) {
	type part[T any] struct {
		of    T
		right bool
	}
	vars := []part[[]impl.Val]{{nil, false}, {[]impl.Val{valNone}, false}, {[]impl.Val{valNone, valNum(1)}, true}, {[]impl.Val{valNone, valNum(top + 1)}, false}, {make([]impl.Val, 3), false}}
	cells := []part[[]impl.Cell]{{nil, true}, {manyCells(40), true}, {manyCells(41), false}, {[]impl.Cell{cellAt(2, "")}, false}, {[]impl.Cell{cellOf(0, "a", impl.Val{N: 1})}, false}, {[]impl.Cell{cellAt(0, "b"), cellAt(0, "a")}, false}}
	numbers := []part[int]{{-1, false}, {0, true}, {impl.MaxLines, true}, {impl.MaxLines + 1, false}}
	codes := []part[int]{{-1, false}, {impl.ErNone, true}, {impl.ErStack, true}, {impl.ErStack + 1, false}}
	for _, v := range vars {
		for _, c := range cells {
			for _, n := range numbers {
				for _, e := range codes {
					s := impl.State{Vars: v.of, Cells: c.of, Nr: n.of, Err: e.of}
					checkStateOk(t, stateCase{s, 2, 2}, v.right && c.right && n.right && e.right)
				}
			}
		}
	}
}

// orderedCells tells by sorting whether cells are as told, each once.
func orderedCells(list []impl.Cell) bool {
	sorted, seen := slices.Clone(list), map[string]int{}
	sort.SliceStable(sorted, func(i int, j int) bool {
		if sorted[i].Name != sorted[j].Name {
			return sorted[i].Name < sorted[j].Name
		}
		return orderOfTexts(sorted[i].Key, sorted[j].Key) < 0
	})
	for _, c := range list {
		seen[fmt.Sprint(c.Name, " ", c.Key)]++
	}
	return slices.Equal(sorted, list) && len(seen) == len(list)
}

// eachCells tells all lists of up to so many cells of few Names and Keys.
func eachCells(most int, f func(list []impl.Cell)) {
	var grow func(list []impl.Cell)
	grow = func(list []impl.Cell) {
		f(list)
		if len(list) == most {
			return
		}
		for name := range 2 {
			for _, key := range []string{"", "a", "ab", "b"} {
				grow(append(slices.Clone(list), cellOf(name, key, valNum(len(list)))))
			}
		}
	}
	grow(nil)
}

func TestStateOkEachOrder(t *testing.T) {
	eachCells(4, func(list []impl.Cell) {
		checkStateOk(t, stateCase{stateOf(list...), 0, 2}, orderedCells(list))
	})
}

func TestStateNew(t *testing.T) {
	for _, c := range []struct{ vars, count int }{
		{0, 0}, {1, 1}, {2, 2}, {7, 7}, {8, 8}, {9, 8}, {10, 8}, {1000, 8}, {1 << 32, 8}, {math.MaxInt, 8}, {-1, 0}, {-2, 0}, {-8, 0}, {-1 << 32, 0}, {math.MinInt, 0},
	} {
		got := impl.StateNew(c.vars)
		checkState(t, fmt.Sprintf("StateNew(%d)", c.vars), got, impl.State{Vars: make([]impl.Val, c.count)})
		checkStateOk(t, stateCase{got, c.count, 0}, true)
	}
	first, second := impl.StateNew(3), impl.StateNew(3)
	first.Vars[1] = valNum(9)
	checkState(t, "StateNew(3)", second, impl.State{Vars: make([]impl.Val, 3)})
	checkState(t, "StateNew(3)", impl.StateNew(3), impl.State{Vars: make([]impl.Val, 3)})
}

// checkPut puts a cell, and holds the state, and what is got of it, against cells.
func checkPut(t *testing.T, s impl.State, c impl.Cell, cells ...impl.Cell) {
	t.Helper()
	got, ok := impl.CellPut(s, c.Name, c.Key, c.Val)
	want := s
	want.Cells = cells
	if !ok {
		t.Errorf("CellPut of %d[%.20q] into %s is refused", c.Name, c.Key, shownState(s))
	}
	checkState(t, fmt.Sprintf("CellPut of %d[%.20q]", c.Name, c.Key), got, want)
	if v := impl.CellGet(got, c.Name, c.Key); v != c.Val {
		t.Errorf("CellGet of %d[%.20q], which was put, is %s; want %s", c.Name, c.Key, shownVal(v), shownVal(c.Val))
	}
}

func TestCellPut(t *testing.T) {
	a, b, c, d := cellAt(0, "a"), cellAt(0, "c"), cellAt(2, "a"), cellAt(2, "c")
	s := impl.State{Vars: []impl.Val{valNum(1), valText("x")}, Cells: []impl.Cell{a, b, c, d}, Nr: 7, Err: 2}
	checkPut(t, impl.State{}, a, a)
	checkPut(t, impl.StateNew(3), c, c)
	for place, put := range [][]impl.Cell{
		{cellAt(0, ""), cellAt(0, "A"), cellAt(0, "\x00"), cellAt(-1, "z"), cellAt(math.MinInt, "")},
		{cellAt(0, "aa"), cellAt(0, "a\x00"), cellAt(0, "b"), cellAt(0, "bzz")},
		{cellAt(0, "c\x00"), cellAt(0, "d"), cellAt(0, "\xff"), cellAt(1, ""), cellAt(1, "a"), cellAt(1, "\xff"), cellAt(2, ""), cellAt(2, "A")},
		{cellAt(2, "aa"), cellAt(2, "b"), cellAt(2, "b\xff")},
		{cellAt(2, "ca"), cellAt(2, "d"), cellAt(2, "\xff"), cellAt(3, ""), cellAt(3, "a"), cellAt(math.MaxInt, "a")},
	} {
		for _, one := range put {
			checkPut(t, s, one, slices.Insert(slices.Clone(s.Cells), place, one)...)
		}
	}
	for place, there := range s.Cells {
		for _, v := range append(rightVals(), wrongVals()...) {
			there.Val = v
			cells := slices.Clone(s.Cells)
			cells[place] = there
			checkPut(t, s, there, cells...)
		}
	}
	checkPut(t, stateOf(a), cellOf(0, "a", valNone), cellOf(0, "a", valNone))
}

// TestCellPutAnything: what is no right cell is put as it is.
func TestCellPutAnything(t *testing.T) {
	long := strings.Repeat("k", 301)
	for _, c := range []impl.Cell{cellAt(0, long), cellAt(0, strings.Repeat("k", 5000)), cellAt(-1, "a"), cellAt(math.MaxInt, long), cellOf(0, "b", valNum(top+1)), cellOf(0, "b", impl.Val{Kind: 9, N: -1, S: long})} {
		checkPut(t, impl.State{}, c, c)
		checkPut(t, impl.State{Nr: -1, Err: 9}, c, c)
	}
	// One byte behind all that a right key has tells two keys apart.
	checkPut(t, stateOf(cellAt(0, long[:300])), cellAt(0, long), cellAt(0, long[:300]), cellAt(0, long))
	checkPut(t, stateOf(cellAt(0, long)), cellAt(0, long[:300]), cellAt(0, long[:300]), cellAt(0, long))
}

func checkRefusedPut(t *testing.T, s impl.State, name int, key string) {
	t.Helper()
	got, ok := impl.CellPut(s, name, key, valNum(77))
	if ok {
		t.Errorf("CellPut of %d[%.20q] beside %d cells is done", name, key, len(s.Cells))
	}
	checkState(t, "CellPut that is refused", got, s)
}

func TestCellPutLimit(t *testing.T) {
	most := impl.State{Vars: []impl.Val{valNum(4)}, Cells: manyCells(40), Nr: 3, Err: 1}
	for place, there := range most.Cells {
		cells := slices.Clone(most.Cells)
		cells[place].Val = valNum(place)
		checkPut(t, most, cells[place], cells...)
		// One less than the most has room for one more, at each place.
		less := most
		less.Cells = slices.Delete(slices.Clone(most.Cells), place, place+1)
		checkPut(t, less, there, most.Cells...)
		checkRefusedPut(t, most, there.Name, there.Key+"x")
	}
	for _, key := range []string{"", "a", "k", "k00 ", "zz"} {
		checkRefusedPut(t, most, 0, key)
		checkRefusedPut(t, most, 1, key)
		checkRefusedPut(t, most, -1, key)
		checkRefusedPut(t, most, 2, key)
	}
	// Of more than the most, others than the one that is put are too many.
	for _, count := range []int{41, 42, 80} {
		more := stateOf(manyCells(count)...)
		checkRefusedPut(t, more, 0, "")
		for _, c := range more.Cells {
			checkRefusedPut(t, more, c.Name, c.Key)
		}
	}
}

func TestCellGet(t *testing.T) {
	s := stateOf(cellOf(0, "", valNum(1)), cellOf(0, "a", valNum(2)), cellOf(0, "ab", valNum(3)), cellOf(1, "a", valNone), cellOf(3, "a", valText("x")), cellOf(3, strings.Repeat("k", 300), valNum(6)))
	for _, c := range s.Cells {
		if got := impl.CellGet(s, c.Name, c.Key); got != c.Val {
			t.Errorf("CellGet of %d[%q] = %s", c.Name, c.Key, shownVal(got))
		}
	}
	for _, c := range []impl.Cell{
		cellAt(0, "b"), cellAt(0, "abc"), cellAt(0, "A"), cellAt(0, " "), cellAt(0, "\x00"), cellAt(1, ""), cellAt(1, "ab"), cellAt(2, "a"), cellAt(3, ""), cellAt(4, "a"), cellAt(-1, "a"), cellAt(math.MinInt, ""), cellAt(math.MaxInt, "a"), cellAt(1<<32, "a"),
		cellAt(3, strings.Repeat("k", 299)), cellAt(3, strings.Repeat("k", 301)), cellAt(3, strings.Repeat("k", 299)+"l"),
	} {
		for _, from := range []impl.State{s, {}, impl.StateNew(8)} {
			if got := impl.CellGet(from, c.Name, c.Key); got != valNone {
				t.Errorf("CellGet of %d[%.20q], which is not there, is %s", c.Name, c.Key, shownVal(got))
			}
		}
	}
}

func TestCellDrop(t *testing.T) {
	s := impl.State{Vars: []impl.Val{valNum(1), valText("x")}, Cells: []impl.Cell{cellAt(0, ""), cellAt(0, "a"), cellAt(0, "ab"), cellAt(1, "a"), cellAt(3, "")}, Nr: 7, Err: 2}
	for place, c := range s.Cells {
		want := s
		want.Cells = slices.Delete(slices.Clone(s.Cells), place, place+1)
		got := impl.CellDrop(s, c.Name, c.Key)
		checkState(t, fmt.Sprintf("CellDrop of %d[%q]", c.Name, c.Key), got, want)
		checkState(t, "CellDrop once more", impl.CellDrop(got, c.Name, c.Key), want)
		checkPut(t, got, c, s.Cells...)
	}
	for _, c := range []impl.Cell{cellAt(0, "b"), cellAt(0, "aa"), cellAt(0, "abc"), cellAt(1, ""), cellAt(1, "ab"), cellAt(2, "a"), cellAt(2, ""), cellAt(3, "a"), cellAt(4, ""), cellAt(-1, ""), cellAt(math.MinInt, "a"), cellAt(math.MaxInt, "a")} {
		checkState(t, "CellDrop of what is not there", impl.CellDrop(s, c.Name, c.Key), s)
		checkState(t, "CellDrop from nothing", impl.CellDrop(impl.State{Nr: 5}, c.Name, c.Key), impl.State{Nr: 5})
	}
	checkState(t, "CellDrop of the only one", impl.CellDrop(stateOf(cellAt(1, "a")), 1, "a"), impl.State{})
	most := stateOf(manyCells(41)...)
	checkState(t, "CellDrop of one of 41", impl.CellDrop(most, 0, "k00"), stateOf(most.Cells[1:]...))
}

// keptCells are cells by Name and Key in maps, told in order at the end alone.
type keptCells map[int]map[string]impl.Val

func (kept keptCells) count() int { return len(kept[0]) + len(kept[1]) + len(kept[2]) }

func (kept keptCells) cells() []impl.Cell {
	var list []impl.Cell
	for name := range 3 {
		var keys []string
		for key := range kept[name] {
			keys = append(keys, key)
		}
		sort.Slice(keys, func(i int, j int) bool { return orderOfTexts(keys[i], keys[j]) < 0 })
		for _, key := range keys {
			list = append(list, cellOf(name, key, kept[name][key]))
		}
	}
	return list
}

// TestPutIsGot is promise 11: whatever was put and dropped before, what is put is
// got, and all else is as it was.
func TestPutIsGot(t *testing.T) {
	chance := rand.New(rand.NewSource(11))
	vals := rightVals()
	wasFull := 0
	for round := range 60 {
		kept := keptCells{0: {}, 1: {}, 2: {}}
		s := impl.State{Vars: []impl.Val{someOf(chance, vals...)}, Nr: round, Err: round % 8}
		want := s
		for range 250 {
			name, key, v := chance.Intn(3), fewBytes(chance, "ab\x00\xff", 2+round%3), someOf(chance, vals...)
			if got := impl.CellGet(s, name, key); got != kept[name][key] {
				t.Fatalf("CellGet of %d[%q] = %s; want %s", name, key, shownVal(got), shownVal(kept[name][key]))
			}
			if chance.Intn(4+round%2*20) == 0 {
				s = impl.CellDrop(s, name, key)
				delete(kept[name], key)
			} else {
				_, there := kept[name][key]
				fits := there || kept.count() < 40
				next, ok := impl.CellPut(s, name, key, v)
				if ok != fits {
					t.Fatalf("CellPut of %d[%q] into %s = %v", name, key, shownState(s), ok)
				}
				if s = next; fits {
					kept[name][key] = v
				} else {
					wasFull++
				}
			}
			want.Cells = kept.cells()
			if !sameState(s, want) || !impl.StateOk(s, 1, 3) {
				t.Fatalf("the state is %s; want %s", shownState(s), shownState(want))
			}
		}
	}
	if wasFull < 100 {
		t.Errorf("only %d puts found no room", wasFull)
	}
}

// othersOf are the cells of another Name or Key.
func othersOf(list []impl.Cell, name int, key string) []impl.Cell {
	return slices.DeleteFunc(slices.Clone(list), func(c impl.Cell) bool { return c.Name == name && c.Key == key })
}

// checkAnyState asks of any state, right or not, what holds of it by the words:
// the first cell is got, without it there is none, and what is put is got once;
// all others stay in their order, and vars, Nr and Err as they are.
func checkAnyState(t *testing.T, s impl.State, name int, key string) {
	t.Helper()
	want := valNone
	if i := slices.IndexFunc(s.Cells, func(c impl.Cell) bool { return c.Name == name && c.Key == key }); i >= 0 {
		want = s.Cells[i].Val
	}
	if got := impl.CellGet(s, name, key); got != want {
		t.Errorf("CellGet of %d[%.20q] from %s = %s", name, key, shownState(s), shownVal(got))
	}
	others := s
	others.Cells = othersOf(s.Cells, name, key)
	checkState(t, fmt.Sprintf("CellDrop of %d[%.20q]", name, key), impl.CellDrop(s, name, key), others)
	v := valText("put")
	got, ok := impl.CellPut(s, name, key, v)
	if ok != (len(others.Cells) < 40) {
		t.Errorf("CellPut of %d[%.20q] beside %d others = %v", name, key, len(others.Cells), ok)
	}
	if !ok {
		checkState(t, "CellPut that is refused", got, s)
		return
	}
	if impl.CellGet(got, name, key) != v || len(got.Cells) != len(others.Cells)+1 {
		t.Errorf("CellPut of %d[%.20q] into %s is %s", name, key, shownState(s), shownState(got))
	}
	got.Cells = othersOf(got.Cells, name, key)
	checkState(t, "CellPut without what was put", got, others)
}

func TestCellsOfWrongStates(t *testing.T) {
	long := strings.Repeat("k", 301)
	for _, c := range wrongStates() {
		for _, at := range []impl.Cell{cellAt(0, "a"), cellAt(0, "b"), cellAt(1, ""), cellAt(1, "a"), cellAt(0, "k03"), cellAt(0, long), cellAt(-1, "a"), cellAt(8, "a"), cellAt(math.MaxInt, "a")} {
			checkAnyState(t, c.s, at.Name, at.Key)
		}
	}
	eachCells(4, func(list []impl.Cell) {
		checkAnyState(t, stateOf(list...), 0, "ab")
		checkAnyState(t, stateOf(list...), 1, "")
	})
	// The same one many times is one, beside which others have room.
	same := slices.Repeat([]impl.Cell{cellAt(0, "a")}, 100)
	checkAnyState(t, stateOf(same...), 0, "a")
	checkAnyState(t, stateOf(same...), 0, "b")
	checkAnyState(t, stateOf(append(same, manyCells(39)...)...), 0, "a")
	checkAnyState(t, stateOf(append(same, manyCells(40)...)...), 0, "a")
}

// roomyState is a state with spare room behind its lists, and the whole of it.
func roomyState(s impl.State) (cut impl.State, whole impl.State) {
	cut, whole = s, s
	cut.Vars, whole.Vars = withRoom(s.Vars, valNum(66))
	cut.Cells, whole.Cells = withRoom(s.Cells, cellAt(5, "room"))
	return cut, whole
}

// spoilt writes over all that a state has, its spare room too.
func spoilt(s impl.State) {
	for i := range s.Vars[:cap(s.Vars)] {
		s.Vars[:cap(s.Vars)][i] = valText("spoilt")
	}
	for i := range s.Cells[:cap(s.Cells)] {
		s.Cells[:cap(s.Cells)][i] = cellAt(9, "spoilt")
	}
}

// TestStateWritesNothing: neither into what is handed in nor behind it, and what
// is told is memory of its own.
func TestStateWritesNothing(t *testing.T) {
	for _, c := range append(rightStates(), wrongStates()...) {
		for _, at := range []impl.Cell{cellAt(0, ""), cellAt(0, "a"), cellAt(0, "k20"), cellAt(9, "z")} {
			cut, whole := roomyState(c.s)
			before, _ := roomyState(c.s)
			before.Vars, before.Cells = slices.Clone(whole.Vars), slices.Clone(whole.Cells)
			impl.StateOk(cut, c.vars, c.lists)
			impl.CellGet(cut, at.Name, at.Key)
			put, _ := impl.CellPut(cut, at.Name, at.Key, at.Val)
			dropped := impl.CellDrop(cut, at.Name, at.Key)
			again := impl.CellDrop(put, at.Name, at.Key)
			checkState(t, "what was handed in", whole, before)
			spoilt(put)
			spoilt(dropped)
			checkState(t, "what was handed in", whole, before)
			kept := again
			kept.Vars, kept.Cells = slices.Clone(again.Vars), slices.Clone(again.Cells)
			spoilt(cut)
			checkState(t, "what was told", again, kept)
		}
	}
}

func checkFields(t *testing.T, line string, want ...string) {
	t.Helper()
	if got := impl.Fields(line); !slices.Equal(got, want) {
		t.Errorf("Fields(%.80q) = %.80q; want %.80q", line, got, want)
	}
}

func TestFields(t *testing.T) {
	checkFields(t, "")
	checkFields(t, " ")
	checkFields(t, "     ")
	checkFields(t, "a", "a")
	checkFields(t, "abc", "abc")
	checkFields(t, "a b", "a", "b")
	checkFields(t, "a  b   c", "a", "b", "c")
	checkFields(t, "  a  bc d", "a", "bc", "d")
	checkFields(t, "a bc  ", "a", "bc")
	checkFields(t, " a ", "a")
	checkFields(t, "   10   -2.5 x=y ", "10", "-2.5", "x=y")
	checkFields(t, strings.Repeat(" ", 5000)+"a"+strings.Repeat(" ", 5000), "a")
	checkFields(t, strings.Repeat("ab ", 5000), slices.Repeat([]string{"ab"}, 5000)...)
	checkFields(t, strings.Repeat("a", 5000), strings.Repeat("a", 5000))
}

// TestFieldsOtherBlanks: the byte 32 alone stands between fields, and bytes that
// are no runes stay as they are.
func TestFieldsOtherBlanks(t *testing.T) {
	for b := range 256 {
		s := string([]byte{byte(b)})
		if s == " " {
			continue
		}
		checkFields(t, s, s)
		checkFields(t, "a"+s+"b", "a"+s+"b")
		checkFields(t, " "+s+" "+s+s+" ", s, s+s)
	}
	for _, s := range []string{"\t\n\v\f\r", "\u0085", "\u00a0", "\u1680", "\u2000", "\u2003", "\u2028", "\u202f", "\u3000", "\ufeff", "\ufffd", "\xc2", "\xa0", "\xe2\x80", "\u0120", "\u2020", "\U00010020", "\xc0\xa0"} {
		checkFields(t, s, s)
		checkFields(t, "a"+s+"b  "+s, "a"+s+"b", s)
	}
}

func fieldsBySplit(line string) []string {
	return slices.DeleteFunc(strings.Split(line, " "), func(s string) bool { return s == "" })
}

func TestFieldsEachText(t *testing.T) {
	eachText(" a\t\xa0", 7, func(line string) {
		checkFields(t, line, fieldsBySplit(line)...)
	})
	chance := rand.New(rand.NewSource(111))
	for range 5000 {
		line := fewBytes(chance, "   ab\t\n\xc2\xa0\xe3\x80", 60)
		checkFields(t, line, fieldsBySplit(line)...)
	}
}

// TestFieldsOwnMemory: what is written into one answer is not seen in the next.
func TestFieldsOwnMemory(t *testing.T) {
	line := "a b c"
	first := impl.Fields(line)
	for i := range first {
		first[i] = "x"
	}
	checkFields(t, line, "a", "b", "c")
}
