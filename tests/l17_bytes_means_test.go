package tests

import (
	"bytes"
	"encoding/binary"
	"fmt"
	"math/big"
	"math/rand"
	"slices"
	"testing"

	"loop.example/g00289/impl"
)

// The tests of this file hold bytes against the document's words the other way
// round: what begins at a place is that of which the bytes stand there. Numbers
// are put by Go's own library, and read by numbers of any size.

const (
	big62 = 1<<62 - 1
	big61 = 1<<61 - 1
)

func numMeant(n int) []byte { return binary.AppendUvarint(nil, uint64(n)) }

func intMeant(n int) []byte {
	twice := new(big.Int).Mul(big.NewInt(int64(n)), big.NewInt(2))
	if n < 0 {
		twice.Neg(twice).Sub(twice, big.NewInt(1))
	}
	return numMeant(int(twice.Int64()))
}

func textMeant(s string) []byte { return slices.Concat(numMeant(len(s)), []byte(s)) }

func bytesOf(parts ...[]byte) []byte { return slices.Concat(parts...) }

// numAtMeant is the number of which the bytes stand there.
func numAtMeant(b []byte, at int) (int, int, bool) {
	if at < 0 || at > len(b) {
		return 0, 0, false
	}
	last := slices.IndexFunc(b[at:], func(one byte) bool { return one < 128 })
	if last < 0 {
		return 0, 0, false
	}
	piece, n := b[at:at+last+1], new(big.Int)
	for _, one := range slices.Backward(piece) {
		n.Mul(n, big.NewInt(128)).Add(n, big.NewInt(int64(one%128)))
	}
	if n.Cmp(big.NewInt(big62)) > 0 || !bytes.Equal(numMeant(int(n.Int64())), piece) {
		return 0, 0, false
	}
	return int(n.Int64()), at + len(piece), true
}

// intAtMeant tries both numbers that are told by about so much.
func intAtMeant(b []byte, at int) (int, int, bool) {
	n, next, ok := numAtMeant(b, at)
	if !ok {
		return 0, 0, false
	}
	for _, one := range []int{n / 2, -n/2 - n%2} {
		if one >= -big61 && one <= big61 && bytes.Equal(intMeant(one), b[at:next]) {
			return one, next, true
		}
	}
	return 0, 0, false
}

func textAtMeant(b []byte, at int) (string, int, bool) {
	count, from, ok := numAtMeant(b, at)
	for to := from; ok && to <= len(b); to++ {
		if to-from == count {
			return string(b[from:to]), to, true
		}
	}
	return "", 0, false
}

// checkAt asks what begins at a place.
func checkAt(t *testing.T, b []byte, at int) {
	t.Helper()
	n, next, ok := impl.GetNum(b, at)
	if wantN, want, is := numAtMeant(b, at); n != wantN || next != want || ok != is {
		t.Errorf("GetNum of %.60q at %d is %d, %d, %v; want %d, %d, %v", b, at, n, next, ok, wantN, want, is)
	}
	n, next, ok = impl.GetInt(b, at)
	if wantN, want, is := intAtMeant(b, at); n != wantN || next != want || ok != is {
		t.Errorf("GetInt of %.60q at %d is %d, %d, %v; want %d, %d, %v", b, at, n, next, ok, wantN, want, is)
	}
	s, next, ok := impl.GetText(b, at)
	if wantS, want, is := textAtMeant(b, at); s != wantS || next != want || ok != is {
		t.Errorf("GetText of %.60q at %d is %.40q, %d, %v; want %.40q, %d, %v", b, at, s, next, ok, wantS, want, is)
	}
}

// checkEachAt asks at all places, and at some that are none.
func checkEachAt(t *testing.T, b []byte) {
	t.Helper()
	for at := -3; at <= len(b)+3; at++ {
		checkAt(t, b, at)
	}
}

// TestBytesShort: all lists of two bytes, and longer ones of few bytes.
func TestBytesShort(t *testing.T) {
	checkEachAt(t, nil)
	for i := range 256 {
		checkEachAt(t, []byte{byte(i)})
		for j := range 256 {
			checkEachAt(t, []byte{byte(i), byte(j)})
		}
	}
	var grow func(b []byte)
	grow = func(b []byte) {
		checkEachAt(t, b)
		if len(b) == 5 {
			return
		}
		for _, one := range []byte{0, 1, 2, 127, 128, 129, 255} {
			grow(append(slices.Clone(b), one))
		}
	}
	grow(nil)
}

// TestBytesLong: about as many bytes as MaxBig takes, with each last one.
func TestBytesLong(t *testing.T) {
	for count := 6; count <= 12; count++ {
		for _, first := range []byte{128, 129, 254, 255} {
			for _, rest := range []byte{128, 129, 192, 254, 255} {
				b := slices.Repeat([]byte{rest}, count)
				b[0] = first
				for last := range 256 {
					b[count-1] = byte(last)
					checkAt(t, b, 0)
					checkAt(t, append(slices.Clone(b), 0), 0)
					checkAt(t, append(slices.Clone(b), 1, 0), 1)
				}
			}
		}
	}
}

// bytesByChance often have a last byte 0, or none that is the last one.
func bytesByChance(chance *rand.Rand, count int) []byte {
	b := make([]byte, count)
	for i := range b {
		switch chance.Intn(6) {
		case 0:
			b[i] = byte(chance.Intn(256))
		case 1, 2:
			b[i] = byte(128 + chance.Intn(128))
		case 3:
			b[i] = byte(chance.Intn(4))
		case 4:
			b[i] = someOf(chance, byte(0), 63, 64, 127, 128, 255)
		}
	}
	return b
}

func TestBytesByChance(t *testing.T) {
	chance := rand.New(rand.NewSource(170))
	for range 20000 {
		checkEachAt(t, bytesByChance(chance, chance.Intn(24)))
	}
}

func amountByChance(chance *rand.Rand) int { return chance.Int() & big62 >> chance.Intn(62) }

// onePart is something that is written, and how it is read again.
type onePart struct {
	bytes []byte
	check func(t *testing.T, b []byte, at int)
}

func partByChance(chance *rand.Rand) onePart {
	switch n := amountByChance(chance); chance.Intn(3) {
	case 0:
		b := impl.PutNum(n)
		return onePart{b, func(t *testing.T, all []byte, at int) { checkGotNum(t, all, at, n, at+len(b)) }}
	case 1:
		n = n / 2 * (1 - 2*chance.Intn(2))
		b := impl.PutInt(n)
		return onePart{b, func(t *testing.T, all []byte, at int) { checkGotInt(t, all, at, n, at+len(b)) }}
	}
	s := string(bytesByChance(chance, chance.Intn(1+chance.Intn(300))))
	b := impl.PutText(s)
	return onePart{b, func(t *testing.T, all []byte, at int) { checkGotText(t, all, at, s, at+len(b)) }}
}

// TestBytesBehindEachOther: many, each read from its place; bytes ahead of all and
// behind all turn nothing.
func TestBytesBehindEachOther(t *testing.T) {
	chance := rand.New(rand.NewSource(171))
	for range 2000 {
		all := bytesByChance(chance, chance.Intn(4))
		var parts []onePart
		var places []int
		for range 1 + chance.Intn(9) {
			one := partByChance(chance)
			parts, places = append(parts, one), append(places, len(all))
			all = append(all, one.bytes...)
		}
		all = append(all, bytesByChance(chance, chance.Intn(4))...)
		for i, one := range parts {
			one.check(t, all, places[i])
		}
	}
}

func valParts(v impl.Val) [][]byte {
	return [][]byte{numMeant(v.Kind), intMeant(v.N), numMeant(len(v.S)), []byte(v.S)}
}

// machParts are the document's words: the numbers of a Mach and the bytes of its
// texts, one behind the other.
func machParts(m impl.Mach) [][]byte {
	parts := [][]byte{numMeant(len(m.State.Vars))}
	for _, v := range m.State.Vars {
		parts = append(parts, valParts(v)...)
	}
	parts = append(parts, numMeant(len(m.State.Cells)))
	for _, c := range m.State.Cells {
		parts = append(parts, numMeant(c.Name), numMeant(len(c.Key)), []byte(c.Key))
		parts = append(parts, valParts(c.Val)...)
	}
	for _, n := range append([]int{m.State.Nr, m.State.Err}, m.Done...) {
		parts = append(parts, numMeant(n))
	}
	return append(parts, numMeant(len(m.Out)), []byte(m.Out))
}

func machBytesMeant(m impl.Mach) []byte { return bytesOf(machParts(m)...) }

// looseReader takes what there is, also what is not the shortest; what is not there
// is zero.
type looseReader struct{ rest []byte }

func (r *looseReader) num() int {
	n, size := binary.Uvarint(r.rest)
	if size <= 0 {
		r.rest = nil
		return 0
	}
	r.rest = r.rest[size:]
	return int(n)
}

func (r *looseReader) count() int { return max(0, min(r.num(), 50)) }

func (r *looseReader) text() string {
	count := max(0, min(r.num(), len(r.rest)))
	s := string(r.rest[:count])
	r.rest = r.rest[count:]
	return s
}

func (r *looseReader) val() impl.Val {
	kind, n, s := r.num(), r.num(), r.text()
	if n%2 != 0 {
		n = -n
	}
	return impl.Val{Kind: kind, N: n/2 + n%2, S: s}
}

// machOfMeant reads loosely, and then asks for the document's words: it is MachOk,
// and these are its bytes.
func machOfMeant(p impl.Prog, b []byte) (impl.Mach, bool) {
	r, m := &looseReader{b}, impl.Mach{}
	for range r.count() {
		m.State.Vars = append(m.State.Vars, r.val())
	}
	for range r.count() {
		m.State.Cells = append(m.State.Cells, cellOf(r.num(), r.text(), r.val()))
	}
	m.State.Nr, m.State.Err = r.num(), r.num()
	m.Done = []int{r.num(), r.num(), r.num()}
	m.Out = r.text()
	if !impl.MachOk(p, m) || !bytes.Equal(machBytesMeant(m), b) {
		return impl.Mach{}, false
	}
	return m, true
}

// checkMachOf asks which Mach is written so, if one is.
func checkMachOf(t *testing.T, p impl.Prog, b []byte) bool {
	t.Helper()
	got, ok := impl.MachOf(p, b)
	want, is := machOfMeant(p, b)
	if ok != is || !sameMach(got, want) {
		t.Errorf("MachOf of %.200q is %v, %s\nwant %v, %s", b, ok, shownMach(got), is, shownMach(want))
	}
	if ok && !bytes.Equal(impl.MachBytes(p, got), b) {
		t.Errorf("MachOf of %.200q is %s, of which MachBytes are %.200q", b, shownMach(got), impl.MachBytes(p, got))
	}
	return ok
}

// checkTurnedBytes asks for what bytes become when one of them is turned, left away
// or put between, and counts those that are of a Mach all the same.
func checkTurnedBytes(t *testing.T, p impl.Prog, b []byte) (asked int, machs int) {
	t.Helper()
	ask := func(turned []byte) {
		asked++
		if checkMachOf(t, p, turned) {
			machs++
		}
	}
	for at := range b {
		turned := slices.Clone(b)
		for one := range 256 {
			if byte(one) != b[at] {
				turned[at] = byte(one)
				ask(turned)
			}
		}
		ask(slices.Delete(slices.Clone(b), at, at+1))
		for _, one := range []byte{0, 1, 2, 127, 128, 255, b[at]} {
			ask(slices.Insert(slices.Clone(b), at, one))
		}
	}
	return asked, machs
}

// TestMachOfTurned: one byte turned, left away, or put between.
func TestMachOfTurned(t *testing.T) {
	asked, machs := 0, 0
	for _, c := range smallMachs() {
		a, m := checkTurnedBytes(t, c.prog, machBytesMeant(c.m))
		asked, machs = asked+a, machs+m
	}
	if machs < 10000 || asked-machs < 20000 {
		t.Errorf("%d asked, %d are of a Mach", asked, machs)
	}
}

// TestMachOfByChance: bytes of a Mach turned at some places at once, and bytes that
// are of none.
func TestMachOfByChance(t *testing.T) {
	chance := rand.New(rand.NewSource(172))
	list := smallMachs()
	machs := 0
	for range 60000 {
		c := someOf(chance, list...)
		b := machBytesMeant(c.m)
		for range 1 + chance.Intn(3) {
			at := chance.Intn(len(b) + 1)
			to := min(len(b), at+chance.Intn(3))
			b = slices.Replace(b, at, to, bytesByChance(chance, chance.Intn(3))...)
		}
		if checkMachOf(t, c.prog, b) {
			machs++
		}
		checkMachOf(t, c.prog, bytesByChance(chance, chance.Intn(40)))
	}
	if machs < 2000 {
		t.Errorf("%d are of a Mach", machs)
	}
}

// TestMachBytesByChance is promise 17 of what programs by chance come to.
func TestMachBytesByChance(t *testing.T) {
	chance := rand.New(rand.NewSource(173))
	codes, kinds := map[int]int{}, map[int]int{}
	for range 1500 {
		p, code := impl.Compile((&lively{chance: chance}).program())
		if code != impl.CkDone {
			continue
		}
		m := impl.MachAll(p, cmdsByChance(chance, chance.Intn(12)))
		checkMachBytes(t, p, m)
		codes[m.State.Err]++
		for _, v := range m.State.Vars {
			kinds[v.Kind]++
		}
		for _, c := range m.State.Cells {
			kinds[c.Val.Kind]++
		}
	}
	for kind := range 4 {
		if kinds[kind] < 10 {
			t.Errorf("Kind %d came %d times: %v", kind, kinds[kind], kinds)
		}
	}
	for _, code := range []int{impl.ErNone, impl.ErNum, impl.ErZero} {
		if codes[code] < 10 {
			t.Errorf("Err %d came %d times: %v", code, codes[code], codes)
		}
	}
}

// TestMachGoesOn: a Mach that is written down and read again goes on as it would
// have.
func TestMachGoesOn(t *testing.T) {
	chance := rand.New(rand.NewSource(174))
	for range 300 {
		p, code := impl.Compile((&lively{chance: chance}).program())
		if code != impl.CkDone {
			continue
		}
		list := cmdsByChance(chance, chance.Intn(12))
		m := impl.MachNew(p)
		for _, c := range list {
			again, ok := impl.MachOf(p, impl.MachBytes(p, m))
			if !ok {
				t.Errorf("%s is not read again", shownMach(m))
			}
			m = impl.MachDo(p, again, c)
		}
		checkMach(t, fmt.Sprintf("%.300v", list), m, impl.MachAll(p, list))
	}
}

// longForms are forms of a number that are not the shortest.
func longForms(b []byte) [][]byte {
	open := slices.Clone(b)
	open[len(open)-1] |= 128
	var list [][]byte
	for more := range 4 {
		list = append(list, bytesOf(open, slices.Repeat([]byte{128}, more), []byte{0}))
	}
	return list
}

// TestMachOfLongForms: each number of a Mach that is not the shortest.
func TestMachOfLongForms(t *testing.T) {
	for _, c := range append(smallMachs(), machCase{fullMach(), progWith(8, 8)}) {
		parts := machParts(c.m)
		if !bytes.Equal(bytesOf(parts...), impl.MachBytes(c.prog, c.m)) {
			t.Errorf("MachBytes of %s", shownMach(c.m))
		}
		for i, part := range parts {
			if _, next, ok := numAtMeant(part, 0); !ok || next != len(part) {
				continue
			}
			for _, long := range longForms(part) {
				turned := slices.Clone(parts)
				turned[i] = long
				checkNoMach(t, c.prog, bytesOf(turned...))
			}
		}
	}
}
