package tests

import (
	"bytes"
	"encoding/binary"
	"hash/adler32"
	"math/rand"
	"slices"
	"strings"
	"testing"

	"loop.example/g00289/impl"
)

// The tests of this file hold records against the document's words the other way
// round: what begins at a place is that of which the bytes stand there. The sum is
// that of Go's own library.

func sumMeant(b []byte) []byte { return binary.LittleEndian.AppendUint32(nil, adler32.Checksum(b)) }

// framed is a body with its length ahead and its sum behind.
func framed(body []byte) []byte { return bytesOf(numMeant(len(body)), body, sumMeant(body)) }

func entryParts(e impl.Entry) [][]byte {
	return [][]byte{numMeant(e.Term), numMeant(e.C.Who + 1), numMeant(e.C.Seq), numMeant(len(e.C.Line)), []byte(e.C.Line)}
}

func entryMeant(e impl.Entry) []byte { return bytesOf(entryParts(e)...) }

// recParts are the numbers of a record and the bytes of its texts, one behind the
// other.
func recParts(r impl.Rec) [][]byte {
	parts := [][]byte{numMeant(r.Kind), numMeant(r.Term), numMeant(r.Vote + 1), numMeant(r.Prev), numMeant(len(r.List))}
	for _, e := range r.List {
		parts = append(parts, entryParts(e)...)
	}
	return append(parts, numMeant(len(r.Snap)), []byte(r.Snap))
}

func bodyMeant(r impl.Rec) []byte { return bytesOf(recParts(r)...) }

func recBytesMeant(r impl.Rec) []byte { return framed(bodyMeant(r)) }

// rightRec has the words of the document the other way round: what is left of a
// record when all that its Kind names is taken away is that Kind alone.
func rightRec(r impl.Rec) bool {
	if r.Term < 0 || r.Term > 300 || r.Prev < 0 || r.Prev > 300 || len(r.List) > 40 || len(r.Snap) > 30000 {
		return false
	}
	for _, e := range r.List {
		if !rightCmd(e.C) || e.Term < 0 || e.Term > 300 {
			return false
		}
	}
	rest := r
	rest.Term = 0
	switch r.Kind {
	case impl.RcVote:
		if !slices.Contains([]int{-1, 0, 1, 2, 3, 4}, r.Vote) {
			return false
		}
		rest.Vote = 0
	case impl.RcPut:
		rest.Prev, rest.List = 0, nil
	case impl.RcSnap:
		rest.Prev, rest.Snap = 0, ""
	default:
		return false
	}
	return sameRec(rest, impl.Rec{Kind: r.Kind})
}

// recOfMeant reads the body loosely, and then asks for the document's words: it is
// RecOk, and its bytes begin there.
func recOfMeant(b []byte, at int) (impl.Rec, int, bool) {
	length, from, ok := numAtMeant(b, at)
	if !ok || length > len(b)-from {
		return impl.Rec{}, 0, false
	}
	in := &looseReader{b[from : from+length]}
	r := impl.Rec{Kind: in.num(), Term: in.num(), Vote: in.num() - 1, Prev: in.num()}
	for range in.count() {
		r.List = append(r.List, impl.Entry{Term: in.num(), C: cmdOf(in.num()-1, in.num(), in.text())})
	}
	r.Snap = in.text()
	whole := recBytesMeant(r)
	if !rightRec(r) || !bytes.HasPrefix(b[at:], whole) {
		return impl.Rec{}, 0, false
	}
	return r, at + len(whole), true
}

// checkRecAt asks which record begins at a place, if one does.
func checkRecAt(t *testing.T, b []byte, at int) bool {
	t.Helper()
	want, next, is := recOfMeant(b, at)
	if is {
		checkGotRec(t, b, at, want, next)
	} else {
		checkNoRec(t, b, at)
	}
	return is
}

// checkRecsMeant asks for all records one behind the other, and how many there are.
func checkRecsMeant(t *testing.T, b []byte) int {
	t.Helper()
	var want []impl.Rec
	used := 0
	for {
		r, next, ok := recOfMeant(b, used)
		if !ok {
			break
		}
		want, used = append(want, r), next
	}
	checkRecs(t, b, used, want...)
	return len(want)
}

func TestSumMeant(t *testing.T) {
	chance := rand.New(rand.NewSource(190))
	check := func(b []byte) {
		t.Helper()
		if got, want := impl.SumOf(b), int(adler32.Checksum(b)); got != want {
			t.Errorf("SumOf of %d bytes %.40q is %d, want %d", len(b), b, got, want)
		}
	}
	for count := range 1500 {
		check(bytesByChance(chance, count))
		check(bytes.Repeat([]byte{255}, count))
		check(make([]byte, count))
	}
	for _, count := range []int{5551, 5552, 5553, 5554, 65519, 65520, 65521, 65522, 65535, 65536, 65537, 131040, 131042, 131071, 131072, 131073, 1000000, 10000000} {
		check(bytesByChance(chance, count))
		check(bytes.Repeat([]byte{255}, count))
		check(bytes.Repeat([]byte{1}, count))
		check(make([]byte, count))
	}
}

// recByChance is mostly right.
func recByChance(chance *rand.Rand) impl.Rec {
	index := func() int { return someOf(chance, 0, 0, 1, 127, 128, 299, 300, chance.Intn(301), chance.Intn(303)-1) }
	switch chance.Intn(4) {
	case 0:
		return recVote(index(), chance.Intn(8)-2+chance.Intn(2))
	case 1:
		return recPut(index(), index(), entriesByChance(chance, chance.Intn(300), someOf(chance, 0, 1, 3, 3, 41))...)
	case 2:
		return recSnap(index(), index(), string(bytesByChance(chance, chance.Intn(1+chance.Intn(300)))))
	}
	r := impl.Rec{Kind: chance.Intn(5), Term: index(), Vote: chance.Intn(4) / 3 * (chance.Intn(8) - 2), Prev: chance.Intn(2) * index()}
	if chance.Intn(3) == 0 {
		r.Snap = "snap"
	}
	if chance.Intn(3) == 0 {
		r.List = entriesByChance(chance, 3, 2)
	}
	return r
}

// TestRecByChance: records right and wrong.
func TestRecByChance(t *testing.T) {
	chance := rand.New(rand.NewSource(191))
	right := map[int]int{}
	for range 20000 {
		r := recByChance(chance)
		if rightRec(r) {
			right[r.Kind]++
			checkWritten(t, r)
			continue
		}
		right[0]++
		checkRecOk(t, r, false)
		checkBytes(t, "RecBytes of what is not right", impl.RecBytes(r), nil)
		checkRecAt(t, recBytesMeant(r), 0)
	}
	if len(right) != 4 || min(right[0], right[1], right[2], right[3]) < 1500 {
		t.Errorf("so many of each Kind are right, the rest is wrong: %v", right)
	}
	for _, r := range append(rightRecs(), wrongRecs()...) {
		checkRecOk(t, r, rightRec(r))
	}
}

// TestRecTurnedBody: one byte of a body turned, left away, or put between, where the
// length and the sum are those of what comes of it.
func TestRecTurnedBody(t *testing.T) {
	asked, recs := 0, 0
	ask := func(body []byte) {
		asked++
		if checkRecAt(t, framed(body), 0) {
			recs++
		}
	}
	for _, r := range smallRecs() {
		body := bodyMeant(r)
		for at := range body {
			turned := slices.Clone(body)
			for one := range 256 {
				turned[at] = byte(one)
				ask(turned)
			}
			ask(slices.Delete(slices.Clone(body), at, at+1))
			for _, one := range []byte{0, 1, 2, 127, 128, 255, body[at]} {
				ask(slices.Insert(slices.Clone(body), at, one))
			}
			ask(body[:at])
		}
	}
	if recs < 5000 || asked-recs < 10000 {
		t.Errorf("%d asked, %d are records", asked, recs)
	}
}

// TestRecBodiesByChance: bodies turned at some places at once, and such as are none.
func TestRecBodiesByChance(t *testing.T) {
	chance := rand.New(rand.NewSource(192))
	list := smallRecs()
	recs := 0
	for range 60000 {
		body := bodyMeant(someOf(chance, list...))
		for range 1 + chance.Intn(3) {
			at := chance.Intn(len(body) + 1)
			to := min(len(body), at+chance.Intn(3))
			body = slices.Replace(body, at, to, bytesByChance(chance, chance.Intn(3))...)
		}
		if checkRecAt(t, framed(body), 0) {
			recs++
		}
		checkRecAt(t, framed(bytesByChance(chance, chance.Intn(20))), 0)
		// Few bytes come nearer to what is a record.
		checkRecAt(t, framed([]byte(fewBytes(chance, "\x00\x00\x01\x01\x02\x03", 10))), 0)
	}
	if recs < 2000 {
		t.Errorf("%d are records", recs)
	}
}

// TestRecShortBodies: all bodies of six bytes of few, which is as short as one may be.
func TestRecShortBodies(t *testing.T) {
	recs := 0
	var grow func(body []byte)
	grow = func(body []byte) {
		if checkRecAt(t, framed(body), 0) {
			recs++
		}
		if len(body) == 7 {
			return
		}
		for _, one := range []byte{0, 1, 2, 3, 5, 6} {
			if len(body) < 6 || one == 0 || body[5] == 1 {
				grow(append(slices.Clone(body), one))
			}
		}
	}
	grow(nil)
	if recs < 100 {
		t.Errorf("%d are records", recs)
	}
}

// TestRecsByChance is promise 19 of many records: what is torn is left away, with
// all behind it, wherever it is torn and whatever comes behind.
func TestRecsByChance(t *testing.T) {
	chance := rand.New(rand.NewSource(193))
	counts := map[int]int{}
	for range 6000 {
		var list []impl.Rec
		for range chance.Intn(7) {
			if r := recByChance(chance); rightRec(r) {
				list = append(list, r)
			}
		}
		b, places := behindEachOther(list)
		b = append(b, bytesByChance(chance, chance.Intn(12))...)
		counts[checkRecsMeant(t, b)]++
		for i, r := range list {
			checkGotRec(t, b, places[i], r, places[i+1])
		}
		for range 3 {
			turned := slices.Clone(b)
			at := chance.Intn(len(b) + 1)
			to := min(len(b), at+chance.Intn(5))
			switch chance.Intn(4) {
			case 0:
				turned = turned[:at]
			case 1:
				clear(turned[at:])
			default:
				turned = slices.Replace(turned, at, to, bytesByChance(chance, chance.Intn(4))...)
			}
			checkRecsMeant(t, turned)
			for i, r := range list {
				if places[i+1] <= at {
					checkGotRec(t, turned, places[i], r, places[i+1])
				}
			}
		}
	}
	for count := range 5 {
		if counts[count] < 100 {
			t.Errorf("so many times so many: %v", counts)
		}
	}
}

// TestRecSnapOfMach: a Mach that is kept in a record is read as it was.
func TestRecSnapOfMach(t *testing.T) {
	for i, c := range append(smallMachs(), machCase{fullMach(), progWith(8, 8)}) {
		r := recSnap(i, 2*i, string(impl.MachBytes(c.prog, c.m)))
		checkWritten(t, r)
		got, _, _ := impl.RecOf(impl.RecBytes(r), 0)
		m, ok := impl.MachOf(c.prog, []byte(got.Snap))
		if !ok {
			t.Errorf("there is no Mach in %.80q", got.Snap)
		}
		checkMach(t, "a Mach of a record", m, c.m)
	}
	if b := impl.MachBytes(progWith(8, 8), fullMach()); len(b) > impl.MaxSnap {
		t.Errorf("the fullest Mach is of %d bytes", len(b))
	}
	checkRecOk(t, recSnap(0, 0, strings.Repeat("\x00", impl.MaxSnap)), true)
}
