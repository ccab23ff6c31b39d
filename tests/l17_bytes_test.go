package tests

import (
	"bytes"
	"fmt"
	"math"
	"slices"
	"strings"
	"testing"

	"loop.example/g00289/impl"
)

func checkBytes(t *testing.T, what string, got []byte, want []byte) {
	t.Helper()
	if !bytes.Equal(got, want) {
		t.Errorf("%s is %.80q; want %.80q", what, got, want)
	}
}

func checkGotNum(t *testing.T, b []byte, at int, n int, next int) {
	t.Helper()
	if gotN, got, ok := impl.GetNum(b, at); gotN != n || got != next || !ok {
		t.Errorf("GetNum of %.60q at %d is %d, %d, %v; want %d, %d", b, at, gotN, got, ok, n, next)
	}
}

func checkGotInt(t *testing.T, b []byte, at int, n int, next int) {
	t.Helper()
	if gotN, got, ok := impl.GetInt(b, at); gotN != n || got != next || !ok {
		t.Errorf("GetInt of %.60q at %d is %d, %d, %v; want %d, %d", b, at, gotN, got, ok, n, next)
	}
}

func checkGotText(t *testing.T, b []byte, at int, s string, next int) {
	t.Helper()
	if gotS, got, ok := impl.GetText(b, at); gotS != s || got != next || !ok {
		t.Errorf("GetText of %.60q at %d is %.40q, %d, %v; want %.40q, %d", b, at, gotS, got, ok, s, next)
	}
}

func checkNoNum(t *testing.T, b []byte, at int) {
	t.Helper()
	if n, next, ok := impl.GetNum(b, at); n != 0 || next != 0 || ok {
		t.Errorf("GetNum of %.60q at %d is %d, %d, %v", b, at, n, next, ok)
	}
}

func checkNoInt(t *testing.T, b []byte, at int) {
	t.Helper()
	if n, next, ok := impl.GetInt(b, at); n != 0 || next != 0 || ok {
		t.Errorf("GetInt of %.60q at %d is %d, %d, %v", b, at, n, next, ok)
	}
}

func checkNoText(t *testing.T, b []byte, at int) {
	t.Helper()
	if s, next, ok := impl.GetText(b, at); s != "" || next != 0 || ok {
		t.Errorf("GetText of %.60q at %d is %.40q, %d, %v", b, at, s, next, ok)
	}
}

func checkNothingAt(t *testing.T, b []byte, at int) {
	t.Helper()
	checkNoNum(t, b, at)
	checkNoInt(t, b, at)
	checkNoText(t, b, at)
}

func TestBytesConstants(t *testing.T) {
	if impl.MaxBig != 4611686018427387903 || impl.MaxBig/2 != big61 {
		t.Error("limits")
	}
}

// surroundings are bytes that may stand ahead of what is read, and behind it.
func surroundings() [][]byte {
	return [][]byte{nil, {0}, {1}, {127}, {128}, {255}, {128, 128}, {5, 0}, {255, 255, 255, 255, 255, 255, 255, 255, 255, 255}}
}

// checkAround asks for what is written, alone and among others, and that there is
// nothing where it ends too early.
func checkAround(t *testing.T, b []byte, found func(all []byte, at int, next int), none func(all []byte, at int)) {
	t.Helper()
	for _, ahead := range surroundings() {
		for _, behind := range surroundings() {
			found(bytesOf(ahead, b, behind), len(ahead), len(ahead)+len(b))
		}
		for cut := range b {
			none(bytesOf(ahead, b[:cut]), len(ahead))
		}
	}
}

func checkNumber(t *testing.T, n int) {
	t.Helper()
	b := impl.PutNum(n)
	checkBytes(t, fmt.Sprintf("PutNum(%d)", n), b, numMeant(n))
	checkAround(t, b, func(all []byte, at int, next int) { checkGotNum(t, all, at, n, next) }, func(all []byte, at int) { checkNoNum(t, all, at) })
}

func checkInt(t *testing.T, n int) {
	t.Helper()
	b := impl.PutInt(n)
	checkBytes(t, fmt.Sprintf("PutInt(%d)", n), b, intMeant(n))
	checkAround(t, b, func(all []byte, at int, next int) { checkGotInt(t, all, at, n, next) }, func(all []byte, at int) { checkNoInt(t, all, at) })
}

// TestPutNumBytes: small numbers, and those at which a byte more is wanted, byte by
// byte.
func TestPutNumBytes(t *testing.T) {
	most := strings.Repeat("\xff", 8)
	for n, want := range map[int]string{
		0: "\x00", 1: "\x01", 2: "\x02", 10: "\x0a", 63: "\x3f", 64: "\x40", 126: "\x7e", 127: "\x7f",
		128: "\x80\x01", 129: "\x81\x01", 255: "\xff\x01", 256: "\x80\x02", 257: "\x81\x02", 300: "\xac\x02", 1000: "\xe8\x07", 16382: "\xfe\x7f", 16383: "\xff\x7f",
		16384: "\x80\x80\x01", 16385: "\x81\x80\x01", 100000: "\xa0\x8d\x06", 1000000: "\xc0\x84\x3d", 1<<21 - 1: "\xff\xff\x7f",
		1 << 21: "\x80\x80\x80\x01", 1<<28 - 1: "\xff\xff\xff\x7f", 1 << 28: "\x80\x80\x80\x80\x01", 1<<35 - 1: "\xff\xff\xff\xff\x7f", 1 << 35: "\x80\x80\x80\x80\x80\x01",
		1<<42 - 1: most[:5] + "\x7f", 1 << 42: "\x80\x80\x80\x80\x80\x80\x01", 1<<49 - 1: most[:6] + "\x7f", 1 << 49: "\x80\x80\x80\x80\x80\x80\x80\x01",
		1<<56 - 1: most[:7] + "\x7f", 1 << 56: "\x80\x80\x80\x80\x80\x80\x80\x80\x01", 1 << 61: "\x80\x80\x80\x80\x80\x80\x80\x80\x20", big62 - 1: "\xfe" + most[1:] + "\x3f", big62: most + "\x3f",
	} {
		checkBytes(t, fmt.Sprintf("PutNum(%d)", n), impl.PutNum(n), []byte(want))
		checkNumber(t, n)
	}
	for n, want := range map[int]string{
		0: "\x00", -1: "\x01", 1: "\x02", -2: "\x03", 2: "\x04", -3: "\x05", 3: "\x06", 63: "\x7e", -63: "\x7d", -64: "\x7f", 64: "\x80\x01", -65: "\x81\x01", 65: "\x82\x01", 150: "\xac\x02", -151: "\xad\x02",
		8191: "\xfe\x7f", -8192: "\xff\x7f", 8192: "\x80\x80\x01", -8193: "\x81\x80\x01", 1000000: "\x80\x89\x7a", -1000000: "\xff\x88\x7a",
		big61: "\xfe" + most[1:] + "\x3f", -big61: "\xfd" + most[1:] + "\x3f", big61 - 1: "\xfc" + most[1:] + "\x3f", 1 - big61: "\xfb" + most[1:] + "\x3f",
	} {
		checkBytes(t, fmt.Sprintf("PutInt(%d)", n), impl.PutInt(n), []byte(want))
		checkInt(t, n)
	}
}

// TestNumbers is promise 17 of numbers: small ones, and those about each power of
// two.
func TestNumbers(t *testing.T) {
	for n := range 70000 {
		if n%7 == 0 || n < 600 {
			checkBytes(t, fmt.Sprintf("PutNum(%d)", n), impl.PutNum(n), numMeant(n))
			checkGotNum(t, impl.PutNum(n), 0, n, len(numMeant(n)))
			checkGotInt(t, impl.PutInt(n), 0, n, len(intMeant(n)))
			checkGotInt(t, impl.PutInt(-n), 0, -n, len(intMeant(-n)))
		}
	}
	for bit := range 62 {
		for by := -2; by <= 2; by++ {
			n := 1<<bit + by
			if n < 0 || n > big62 {
				continue
			}
			checkNumber(t, n)
			checkNumber(t, big62-n)
			if n <= big61 {
				checkInt(t, n)
				checkInt(t, -n)
				checkInt(t, big61-n)
				checkInt(t, n-big61)
			}
		}
	}
}

// TestNumberSizes: a byte more is wanted at each seventh bit.
func TestNumberSizes(t *testing.T) {
	for count := 1; count <= 8; count++ {
		below := 1<<(7*count) - 1
		if len(impl.PutNum(below)) != count || len(impl.PutNum(below+1)) != count+1 {
			t.Errorf("%d takes %d bytes, one more %d", below, len(impl.PutNum(below)), len(impl.PutNum(below+1)))
		}
		if len(impl.PutInt(below/2)) != count || len(impl.PutInt(below/2+1)) != count+1 || len(impl.PutInt(-below/2-1)) != count || len(impl.PutInt(-below/2-2)) != count+1 {
			t.Errorf("about %d on both sides", below/2)
		}
	}
	if len(impl.PutNum(big62)) != 9 {
		t.Errorf("MaxBig takes %d bytes", len(impl.PutNum(big62)))
	}
}

// TestPutNone: of what is no number there is nothing.
func TestPutNone(t *testing.T) {
	for _, n := range []int{-1, -2, -127, -128, -300, -big61, -big62, -big62 - 1, math.MinInt, math.MinInt + 1, big62 + 1, big62 + 2, 1<<62 + 128, math.MaxInt - 1, math.MaxInt} {
		checkBytes(t, fmt.Sprintf("PutNum(%d)", n), impl.PutNum(n), nil)
	}
	for _, n := range []int{big61 + 1, big61 + 2, big62, big62 + 1, math.MaxInt, math.MaxInt - 1, -big61 - 1, -big61 - 2, -big62, -big62 - 1, -big62 - 2, math.MinInt, math.MinInt + 1} {
		checkBytes(t, fmt.Sprintf("PutInt(%d)", n), impl.PutInt(n), nil)
	}
}

// TestGetPlaces: there is nothing at what is no place, or at the end.
func TestGetPlaces(t *testing.T) {
	for _, b := range [][]byte{nil, {}, {0}, {1}, {0, 0}, {2, 3}, {128, 1}, {1, 65, 1, 66}, bytes.Repeat([]byte{5}, 100)} {
		for _, at := range []int{-1, -2, -7, -len(b), -len(b) - 1, -1 << 32, math.MinInt, math.MinInt + 1, len(b), len(b) + 1, len(b) + 2, 2*len(b) + 3, 1 << 32, 1<<32 + 1, math.MaxInt - 1, math.MaxInt} {
			if at < 0 || at >= len(b) {
				checkNothingAt(t, b, at)
			}
		}
	}
}

// TestGetLongForms: a last byte 0 behind one with 128 is not the shortest.
func TestGetLongForms(t *testing.T) {
	for count := 1; count <= 12; count++ {
		for _, one := range []byte{128, 129, 200, 255} {
			b := append(slices.Repeat([]byte{one}, count), 0)
			checkNothingAt(t, b, 0)
			checkNothingAt(t, append(b, 0, 1, 2), 0)
			checkNothingAt(t, bytesOf([]byte{7}, b, []byte{1}), 1)
			checkGotNum(t, b, count, 0, count+1)
		}
	}
	for _, n := range []int{0, 1, 5, 127, 128, 300, 16383, 16384, 1 << 35, 1 << 55, big62} {
		for _, long := range longForms(numMeant(n)) {
			checkNothingAt(t, long, 0)
			checkNothingAt(t, bytesOf(long, bytes.Repeat([]byte{65}, 400)), 0)
		}
	}
}

// TestGetAboveMost: nine bytes may tell more than MaxBig, ten always do.
func TestGetAboveMost(t *testing.T) {
	for last := range 256 {
		b := append(bytes.Repeat([]byte{255}, 8), byte(last), 1)
		if last >= 1 && last <= 63 {
			checkGotNum(t, b, 0, last<<56+1<<56-1, 9)
		} else {
			checkNoNum(t, b, 0)
		}
		b = append(bytes.Repeat([]byte{128}, 9), byte(last), 0, 1)
		checkNothingAt(t, b, 0)
	}
	checkGotNum(t, numMeant(big62), 0, big62, 9)
	for _, n := range []int{big62 + 1, big62 + 2, 1<<62 + 1<<61, math.MaxInt - 1, math.MaxInt, -1, -2, math.MinInt} {
		checkNothingAt(t, numMeant(n), 0)
	}
	// MaxBig itself is no number of GetInt.
	checkNoInt(t, numMeant(big62), 0)
	checkGotInt(t, numMeant(big62-1), 0, big61, 9)
	checkGotInt(t, numMeant(big62-2), 0, -big61, 9)
}

func checkText(t *testing.T, s string) {
	t.Helper()
	b := impl.PutText(s)
	checkBytes(t, fmt.Sprintf("PutText of %d bytes", len(s)), b, textMeant(s))
	checkGotText(t, b, 0, s, len(b))
	checkAround(t, b[:min(len(b), 200)], func(all []byte, at int, next int) { checkAt(t, all, at) }, func(all []byte, at int) { checkNoText(t, all, at) })
	for _, ahead := range surroundings() {
		for _, behind := range surroundings() {
			checkGotText(t, bytesOf(ahead, b, behind), len(ahead), s, len(ahead)+len(b))
		}
	}
}

// TestTexts is promise 17 of texts: of each byte, and about each length at which a
// byte more is wanted.
func TestTexts(t *testing.T) {
	for s, want := range map[string]string{
		"": "\x00", "a": "\x01a", "ab": "\x02ab", "\x00": "\x01\x00", "\x80": "\x01\x80", "a\nb": "\x03a\nb", "\u00e9": "\x02\xc3\xa9", "\xff\xfe": "\x02\xff\xfe",
		strings.Repeat("x", 127): "\x7f" + strings.Repeat("x", 127), strings.Repeat("x", 128): "\x80\x01" + strings.Repeat("x", 128), strings.Repeat("\u00e9", 150): "\xac\x02" + strings.Repeat("\u00e9", 150),
	} {
		checkBytes(t, fmt.Sprintf("PutText(%.40q)", s), impl.PutText(s), []byte(want))
		checkText(t, s)
	}
	for one := range 256 {
		checkText(t, string([]byte{byte(one)}))
		checkText(t, strings.Repeat(string([]byte{byte(one), 'a'}), 3))
	}
	for _, count := range []int{1, 2, 60, 126, 127, 128, 129, 255, 256, 299, 300, 301, 16382, 16383, 16384, 16385, 100000} {
		checkText(t, strings.Repeat("t", count))
		checkText(t, strings.Repeat("\x80", count))
	}
}

// TestTextsCut: a text ends too early, at each place.
func TestTextsCut(t *testing.T) {
	for _, count := range []int{1, 2, 126, 127, 128, 129, 300} {
		b := impl.PutText(strings.Repeat("t", count))
		for cut := range b {
			checkNoText(t, b[:cut], 0)
			// What stands ahead does not count for it.
			checkNoText(t, bytesOf(bytes.Repeat([]byte{65}, 500), b[:cut]), 500)
			// Nor does what stands behind, in the room of the list.
			room := bytesOf(b[:cut], bytes.Repeat([]byte{65}, 500))
			checkNoText(t, room[:cut], 0)
		}
	}
}

// TestTextsTooLong: a length above what is there, up to the greatest of all.
func TestTextsTooLong(t *testing.T) {
	for _, there := range []int{0, 1, 2, 127, 128, 300} {
		rest := bytes.Repeat([]byte{'t'}, there)
		counts := []int{there + 1, there + 2, there + 128, there + 1000, 1 << 31, 1<<32 - 1, 1 << 32, 1<<32 + there, 1<<32 + 1, big61, 1 << 61, big62 - 1, big62}
		for at := range 20 {
			counts = append(counts, big62-at, 1<<62-there-at)
		}
		for _, count := range counts {
			for _, ahead := range []int{0, 1, 5, 400} {
				b := bytesOf(bytes.Repeat([]byte{1}, ahead), numMeant(count), rest)
				if count > there && count <= big62 {
					checkNoText(t, b, ahead)
				}
			}
		}
		checkGotText(t, bytesOf(numMeant(there), rest), 0, string(rest), len(numMeant(there))+there)
		for _, n := range []int{big62 + 1, math.MaxInt, math.MinInt, -1} {
			checkNoText(t, bytesOf(numMeant(n), rest), 0)
		}
	}
}

// checkMachBytes is promise 17 of a Mach, and asks for what its bytes are not when
// they end too early or too late.
func checkMachBytes(t *testing.T, p impl.Prog, m impl.Mach) {
	t.Helper()
	b := impl.MachBytes(p, m)
	checkBytes(t, "MachBytes of "+shownMach(m), b, machBytesMeant(m))
	got, ok := impl.MachOf(p, b)
	if !ok {
		t.Errorf("MachOf of the bytes of %s is false", shownMach(m))
	}
	checkMach(t, "MachOf", got, m)
	for _, at := range []int{0, 1, len(b) / 2, len(b) - 2, len(b) - 1} {
		checkNoMach(t, p, b[:max(at, 0)])
	}
	checkNoMach(t, p, append(slices.Clone(b), 0))
}

func checkNoMach(t *testing.T, p impl.Prog, b []byte) {
	t.Helper()
	if got, ok := impl.MachOf(p, b); ok || !sameMach(got, impl.Mach{}) {
		t.Errorf("MachOf of %.200q is %v, %s", b, ok, shownMach(got))
	}
}

func TestMachBytesByHand(t *testing.T) {
	state := impl.State{Vars: []impl.Val{valNone, valNum(-one), valText("a\nb"), valLook(1500000, " 1.5")}, Cells: []impl.Cell{cellOf(0, "", valNum(1)), cellOf(0, "k", valNone), cellOf(2, "\xff", valText(""))}, Nr: 300, Err: 5}
	for _, c := range []struct {
		m           impl.Mach
		vars, lists int
		want        string
	}{
		{machOf(impl.State{}, "", 0, 0, 0), 0, 0, "\x00\x00\x00\x00\x00\x00\x00\x00"},
		{machOf(impl.State{}, "", 0, 0, 0), 0, 8, "\x00\x00\x00\x00\x00\x00\x00\x00"},
		{machOf(impl.State{Nr: 1, Err: 2}, "abc", 3, 4, 5), 0, 0, "\x00\x00\x01\x02\x03\x04\x05\x03abc"},
		{machOf(impl.State{Nr: 1000000, Err: 7}, strings.Repeat("o", 128), 100000, 127, 128), 0, 0, "\x00\x00\xc0\x84\x3d\x07\xa0\x8d\x06\x7f\x80\x01\x80\x01" + strings.Repeat("o", 128)},
		{machOf(impl.State{Vars: make([]impl.Val, 2)}, "", 0, 0, 0), 2, 0, "\x02\x00\x00\x00\x00\x00\x00\x00\x00\x00\x00\x00\x00\x00"},
		{machOf(state, "x 5\n", 0, 100000, 7), 4, 3, "\x04" + "\x00\x00\x00" + "\x01\xff\x88\x7a\x00" + "\x02\x00\x03a\nb" + "\x03\xc0\x8d\xb7\x01\x04 1.5" +
			"\x03" + "\x00\x00\x01\x02\x00" + "\x00\x01k\x00\x00\x00" + "\x02\x01\xff\x02\x00\x00" + "\xac\x02\x05" + "\x00\xa0\x8d\x06\x07" + "\x04x 5\n"},
	} {
		p := progWith(c.vars, c.lists)
		checkBytes(t, "MachBytes of "+shownMach(c.m), impl.MachBytes(p, c.m), []byte(c.want))
		checkMachBytes(t, p, c.m)
	}
}

// TestMachBytesRun: of what a program comes to, line by line.
func TestMachBytesRun(t *testing.T) {
	p := machProg(t)
	m := impl.MachNew(p)
	checkBytes(t, "MachBytes of a new one", impl.MachBytes(p, m), []byte("\x01\x01\x80\xda\xc4\x09\x00\x00\x00\x00\x00\x00\x00\x06begin\n"))
	for i, line := range []string{"x 5", "y 2.25", "", "x 1", "bad 3", "x 9"} {
		checkMachBytes(t, p, m)
		m = impl.MachDo(p, m, cmdOf(i%3, 100*i+1, line))
	}
	checkMachBytes(t, p, m)
}

// fullMach has the most of all that there may be.
func fullMach() impl.Mach {
	long := strings.Repeat("l", 300)
	s := impl.State{Nr: 1000000, Err: 7, Vars: slices.Repeat([]impl.Val{valText(long), valNum(-top)}, 4)}
	for i := range 40 {
		s.Cells = append(s.Cells, cellOf(i/5, long[:290]+fmt.Sprintf("%010d", i), longVal(i)))
	}
	return machOf(s, strings.Repeat("o", 1500), 100000, 100000, 100000)
}

// longVal is a value of each kind in turn, as long and as great as there may be.
func longVal(i int) impl.Val {
	return []impl.Val{valText(strings.Repeat("v", 300)), valLook(top, "9000000"+strings.Repeat(" ", 293)), valNone, valNum(top), valLook(-top, strings.Repeat(" ", 292)+"-9000000")}[i%5]
}

// TestMachBytesMost: without vars and cells, with the most of each, and with each
// Err.
func TestMachBytesMost(t *testing.T) {
	for _, m := range []impl.Mach{fullMach(), machOf(fullMach().State, "", 0, 0, 0)} {
		for err := range 8 {
			m.State.Err = err
			checkMachBytes(t, progWith(8, 8), m)
		}
		m.State.Cells = nil
		checkMachBytes(t, progWith(8, 8), m)
		checkMachBytes(t, progWith(8, 0), m)
		m.State.Vars, m.State.Cells = nil, fullMach().State.Cells
		checkMachBytes(t, progWith(0, 8), m)
		m.State.Cells = nil
		checkMachBytes(t, progWith(0, 0), m)
	}
	for vars := range 9 {
		for lists := range 9 {
			m := machOf(impl.State{Vars: slices.Clone(fullMach().State.Vars[:vars]), Cells: slices.Clone(fullMach().State.Cells[:5*lists])}, "out", 1, 2, 3)
			checkMachBytes(t, progWith(vars, lists), m)
		}
	}
}

// TestMachBytesStates is promise 17 of states at their limits.
func TestMachBytesStates(t *testing.T) {
	for _, c := range rightStates() {
		if c.vars < 0 || c.vars > impl.MaxNames || c.lists < 0 || c.lists > impl.MaxNames {
			continue
		}
		for _, out := range []string{"", "a\n", "\x00\xff\x80", strings.Repeat("o", 127), strings.Repeat("o", 128), strings.Repeat("o", 1499), strings.Repeat("o", 1500)} {
			for _, done := range [][]int{{0, 0, 0}, {1, 2, 3}, {127, 128, 16383}, {100000, 100000, 100000}, {0, 99999, 0}} {
				checkMachBytes(t, progWith(c.vars, c.lists), machOf(c.s, out, done...))
			}
		}
	}
	for _, v := range rightVals() {
		checkMachBytes(t, progWith(3, 1), machOf(impl.State{Vars: []impl.Val{valNone, v, num(1)}, Cells: []impl.Cell{cellOf(0, "k", v)}}, "", 0, 0, 1))
	}
}

// smallMachs are of few bytes, so that each may be turned.
func smallMachs() []machCase {
	state := impl.State{Vars: []impl.Val{valNone, valNum(-one), valText("a b"), valLook(20*one, "20")}, Cells: []impl.Cell{cellOf(0, "a", valNum(1)), cellOf(0, "b", valText("")), cellOf(1, "", valLook(0, "-0"))}, Nr: 300, Err: 0}
	return []machCase{
		{machOf(impl.State{}, "", 0, 0, 0), progWith(0, 0)},
		{machOf(impl.State{Nr: 5, Err: 3}, "out\n", 1, 128, 100000), progWith(0, 2)},
		{machOf(impl.State{Vars: []impl.Val{valText("")}, Nr: 1000000, Err: 7}, "", 0, 0, 1), progWith(1, 0)},
		{machOf(state, "x 5\n", 3, 0, 99999), progWith(4, 2)},
		{machOf(impl.State{Cells: state.Cells}, strings.Repeat("o", 128), 0, 0, 0), progWith(0, 8)},
	}
}

// TestMachOfCut: the bytes of a Mach end too early, at each place, or too late.
func TestMachOfCut(t *testing.T) {
	for _, c := range append(smallMachs(), machCase{fullMach(), progWith(8, 8)}) {
		b := impl.MachBytes(c.prog, c.m)
		for cut := range b {
			checkNoMach(t, c.prog, b[:cut])
			checkNoMach(t, c.prog, b[cut+1:])
		}
		for one := range 256 {
			checkNoMach(t, c.prog, append(slices.Clone(b), byte(one)))
			checkNoMach(t, c.prog, append(slices.Clone(b), byte(one), 0))
		}
		checkNoMach(t, c.prog, bytesOf(b, b))
		checkNoMach(t, c.prog, bytesOf(b, make([]byte, 1000)))
	}
}

// canBeWritten tells whether all numbers of a Mach are such of PutNum and PutInt.
func canBeWritten(m impl.Mach) bool {
	nums := append([]int{m.State.Nr, m.State.Err}, m.Done...)
	ints := []int{}
	for _, v := range m.State.Vars {
		nums, ints = append(nums, v.Kind), append(ints, v.N)
	}
	for _, c := range m.State.Cells {
		nums, ints = append(nums, c.Name, c.Val.Kind), append(ints, c.Val.N)
	}
	return !slices.ContainsFunc(nums, func(n int) bool { return n < 0 || n > big62 }) && !slices.ContainsFunc(ints, func(n int) bool { return n < -big61 || n > big61 })
}

// TestMachBytesWrong: of what is not MachOk there are no bytes, and of its bytes,
// written down by others, there is no Mach.
func TestMachBytesWrong(t *testing.T) {
	written := 0
	for _, c := range wrongMachs() {
		checkBytes(t, "MachBytes of what is not right", impl.MachBytes(c.prog, c.m), nil)
		if canBeWritten(c.m) {
			written++
			checkNoMach(t, c.prog, machBytesMeant(c.m))
		}
	}
	if written < 60 {
		t.Errorf("only %d could be written", written)
	}
}

// TestMachOfOtherProgs: what is a Mach of one program is none of another one with
// other names.
func TestMachOfOtherProgs(t *testing.T) {
	s := impl.State{Vars: []impl.Val{num(1), valText("a")}, Cells: []impl.Cell{cellAt(0, "a"), cellAt(3, "")}, Nr: 4}
	m := machOf(s, "out\n", 1, 0, 3)
	b := machBytesMeant(m)
	for vars := range 9 {
		for lists := range 9 {
			p := progWith(vars, lists)
			if vars == 2 && lists >= 4 {
				checkMachBytes(t, p, m)
				continue
			}
			checkBytes(t, "MachBytes by another program", impl.MachBytes(p, m), nil)
			checkNoMach(t, p, b)
		}
	}
}

func TestMachBytesWrongProgs(t *testing.T) {
	machs := []impl.Mach{{}, machOf(impl.State{}, "", 0, 0, 0), machOf(impl.State{Vars: []impl.Val{num(1), num(2)}, Cells: manyCells(5), Nr: 4}, "out\n", 1, 2, 3), machOf(impl.State{Vars: make([]impl.Val, 8)}, "", 0, 0, 0), machOf(impl.State{Vars: make([]impl.Val, 9)}, "", 0, 0, 0), impl.MachNew(machProg(t))}
	for _, p := range wrongProgs() {
		checkProg(t, p, false)
		for _, m := range machs {
			checkBytes(t, "MachBytes of what is no program", impl.MachBytes(p, m), nil)
			checkNoMach(t, p, machBytesMeant(m))
		}
		checkNoMach(t, p, nil)
	}
}

// TestMachOfSoon: what tells more than there is, or more than there may be, is
// refused without room for it.
func TestMachOfSoon(t *testing.T) {
	zeros := make([]byte, 20000000)
	for _, p := range []impl.Prog{progWith(0, 0), progWith(8, 8)} {
		for _, count := range []int{7, 8, 9, 40, 41, 50, 1000000, 5000000, 1 << 32, big61, big62} {
			for _, ahead := range [][]byte{nil, {0}, bytesOf(numMeant(8), make([]byte, 24)), bytesOf(numMeant(8), make([]byte, 24), numMeant(1), make([]byte, 2)), make([]byte, 7)} {
				checkNoMach(t, p, bytesOf(ahead, numMeant(count)))
				checkNoMach(t, p, bytesOf(ahead, numMeant(count), zeros))
			}
		}
		checkNoMach(t, p, zeros)
		checkNoMach(t, p, bytes.Repeat([]byte{255}, 20000000))
	}
	checkNoNum(t, bytes.Repeat([]byte{128}, 20000000), 0)
	checkNoText(t, bytes.Repeat([]byte{255}, 20000000), 5000000)
}

// ownBytes asks for the same bytes twice: neither turns when the other ones, or the
// room behind them, are written over.
func ownBytes(t *testing.T, ask func() []byte) {
	t.Helper()
	first, second := ask(), ask()
	kept := slices.Clone(second)
	checkBytes(t, "the answer once more", first, second)
	for i := range first[:cap(first)] {
		first[:cap(first)][i] = 77
	}
	checkBytes(t, "an answer beside another one", second, kept)
	checkBytes(t, "the answer behind one that was written over", ask(), kept)
}

func TestPutOwnMemory(t *testing.T) {
	for _, n := range []int{0, 1, -1, 127, 128, 300, big61, -big61, big62, big62 + 1, math.MinInt} {
		ownBytes(t, func() []byte { return impl.PutNum(n) })
		ownBytes(t, func() []byte { return impl.PutInt(n) })
	}
	for _, s := range []string{"", "a", strings.Repeat("x", 128)} {
		ownBytes(t, func() []byte { return impl.PutText(s) })
	}
	for _, c := range append(smallMachs(), wrongMachs()...) {
		ownBytes(t, func() []byte { return impl.MachBytes(c.prog, c.m) })
	}
}

// TestBytesWriteNothing: neither into what is handed in nor behind it; what was read
// stays so, when the bytes turn.
func TestBytesWriteNothing(t *testing.T) {
	for _, c := range append(smallMachs(), machCase{fullMach(), progWith(8, 8)}, machCase{fullMach(), progWith(7, 8)}, machCase{fullMach(), wrongProgs()[5]}) {
		cut, whole := roomyMach(c.m)
		before := cloneMach(whole)
		beforeProg := cloneProg(c.prog)
		kept := impl.MachBytes(c.prog, cut)
		b, wholeBytes := withRoom(machBytesMeant(c.m), 99)
		beforeBytes := slices.Clone(wholeBytes)
		got := checkOwnMach(t, func() impl.Mach {
			m, _ := impl.MachOf(c.prog, b)
			return m
		})
		keptMach := cloneMach(got)
		for at := -1; at <= len(b)+1; at++ {
			checkAt(t, b, at)
		}
		s, _, _ := impl.GetText(b, len(b)-len(c.m.Out)-len(numMeant(len(c.m.Out))))
		checkBytes(t, "what was handed in", wholeBytes, beforeBytes)
		checkMach(t, "what was handed in", whole, before)
		if !sameProg(c.prog, beforeProg) || s != c.m.Out {
			t.Errorf("%s is turned, or %.80q is not the Out", shownProg(c.prog), s)
		}
		for i := range wholeBytes {
			wholeBytes[i] = 88
		}
		spoiltMach(cut)
		checkMach(t, "what was read, behind its bytes", got, keptMach)
		checkBytes(t, "what was written, behind its Mach", kept, impl.MachBytes(c.prog, c.m))
		if s != c.m.Out {
			t.Errorf("a text turns with its bytes: %.80q", s)
		}
	}
}
