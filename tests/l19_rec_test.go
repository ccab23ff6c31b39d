package tests

import (
	"bytes"
	"fmt"
	"math"
	"slices"
	"strings"
	"testing"

	"loop.example/g00289/impl"
)

func recVote(term int, vote int) impl.Rec {
	return impl.Rec{Kind: impl.RcVote, Term: term, Vote: vote}
}

func recPut(prev int, term int, list ...impl.Entry) impl.Rec {
	return impl.Rec{Kind: impl.RcPut, Term: term, Prev: prev, List: list}
}

func recSnap(prev int, term int, snap string) impl.Rec {
	return impl.Rec{Kind: impl.RcSnap, Term: term, Prev: prev, Snap: snap}
}

func sameRec(a impl.Rec, b impl.Rec) bool {
	return a.Kind == b.Kind && a.Term == b.Term && a.Vote == b.Vote && a.Prev == b.Prev && slices.Equal(a.List, b.List) && a.Snap == b.Snap
}

func shownRec(r impl.Rec) string {
	return fmt.Sprintf("Kind %d, Term %d, Vote %d, Prev %d, %s, Snap of %d bytes %.40q", r.Kind, r.Term, r.Vote, r.Prev, shownEntries(r.List), len(r.Snap), r.Snap)
}

func checkRec(t *testing.T, what string, got impl.Rec, want impl.Rec) {
	t.Helper()
	if !sameRec(got, want) {
		t.Errorf("%s is\n%s; want\n%s", what, shownRec(got), shownRec(want))
	}
}

func checkRecOk(t *testing.T, r impl.Rec, want bool) {
	t.Helper()
	if got := impl.RecOk(r); got != want {
		t.Errorf("RecOk is %v of %s", got, shownRec(r))
	}
}

func checkGotRec(t *testing.T, b []byte, at int, want impl.Rec, wantNext int) {
	t.Helper()
	got, next, ok := impl.RecOf(b, at)
	if !sameRec(got, want) || next != wantNext || !ok {
		t.Errorf("RecOf of %.80q at %d is %v, %d, %s\nwant %d, %s", b, at, ok, next, shownRec(got), wantNext, shownRec(want))
	}
}

func checkNoRec(t *testing.T, b []byte, at int) {
	t.Helper()
	got, next, ok := impl.RecOf(b, at)
	if !sameRec(got, impl.Rec{}) || next != 0 || ok {
		t.Errorf("RecOf of %.80q at %d is %v, %d, %s", b, at, ok, next, shownRec(got))
	}
}

func checkRecs(t *testing.T, b []byte, wantUsed int, want ...impl.Rec) {
	t.Helper()
	list, used := impl.Recs(b)
	if used != wantUsed || len(list) != len(want) {
		t.Errorf("Recs of %.80q are %d in %d bytes; want %d in %d", b, len(list), used, len(want), wantUsed)
		return
	}
	for i, r := range list {
		checkRec(t, fmt.Sprintf("record %d of %d", i, len(list)), r, want[i])
	}
}

// checkWritten is promise 19 of one record: its bytes are the document's, it is
// read from them as it was, bytes ahead and behind turn nothing, and cut short
// there is none.
func checkWritten(t *testing.T, r impl.Rec) {
	t.Helper()
	checkRecOk(t, r, true)
	b := impl.RecBytes(r)
	checkBytes(t, "RecBytes of "+shownRec(r), b, recBytesMeant(r))
	for _, ahead := range surroundings() {
		for _, behind := range surroundings() {
			checkGotRec(t, bytesOf(ahead, b, behind), len(ahead), r, len(ahead)+len(b))
		}
	}
	for _, behind := range surroundings() {
		checkRecs(t, bytesOf(b, behind), len(b), r)
	}
	for _, cut := range []int{0, 1, 2, len(b) / 2, len(b) - 5, len(b) - 4, len(b) - 3, len(b) - 2, len(b) - 1} {
		checkNoRec(t, b[:cut], 0)
		checkRecs(t, b[:cut], 0)
	}
}

// manyEntries are as many, the last one nobody's.
func manyEntries(count int) []impl.Entry {
	list := termsFrom(1, slices.Repeat([]int{7}, count)...)
	if count > 0 {
		list[count-1] = impl.Entry{Term: 300, C: cmdOf(-1, 0, "")}
	}
	return list
}

// smallRecs are of few bytes, so that each may be turned.
func smallRecs() []impl.Rec {
	return []impl.Rec{
		recVote(0, -1), recVote(3, 1), recVote(300, 4), recPut(0, 0), recPut(128, 1, impl.Entry{Term: 2, C: cmdOf(1, 300, "ab")}), recPut(0, 0, impl.Entry{C: cmdOf(-1, 0, "")}),
		recPut(5, 5, termsFrom(126, 5, 6, 2)...), recSnap(0, 0, ""), recSnap(300, 5, "\xff"), recSnap(9, 300, strings.Repeat("\x00s", 70)),
	}
}

// fullRecs have the most of all that there may be.
func fullRecs() []impl.Rec {
	long := slices.Repeat([]impl.Entry{{Term: 300, C: cmdOf(2, 100000, strings.Repeat("l", 60))}}, 40)
	return []impl.Rec{recVote(300, 4), recPut(300, 300, long...), recSnap(300, 300, strings.Repeat("\xff", 30000)), recSnap(300, 300, strings.Repeat("s", 29999))}
}

func rightRecs() []impl.Rec {
	list := append(smallRecs(), fullRecs()...)
	for vote := -1; vote <= 4; vote++ {
		list = append(list, recVote(1, vote), recVote(299, vote))
	}
	for _, count := range []int{1, 2, 3, 39, 40} {
		list = append(list, recPut(1, 2, manyEntries(count)...), recPut(300, 0, manyEntries(count)...))
	}
	for _, terms := range [][]int{{0}, {300}, {1, 0}, {300, 299, 0}, {5, 9, 5, 300, 0, 1}} {
		list = append(list, recPut(0, 7, termsFrom(1, terms...)...), recPut(299, 300, termsFrom(99990, terms...)...))
	}
	for _, count := range []int{1, 2, 113, 114, 115, 119, 120, 121, 126, 127, 128, 129, 255, 256, 16370, 16383, 16384, 29990} {
		list = append(list, recSnap(2, 2, strings.Repeat("m", count)))
	}
	for _, b := range []string{"\x00", "\n", "\x80\x01", "\xfe\xff", "\u00e9"} {
		list = append(list, recSnap(0, 1, b))
	}
	return list
}

// wrongRecs are wrong in one way each, but for the last ones.
func wrongRecs() []impl.Rec {
	one := termsFrom(1, 3)
	list := []impl.Rec{
		{}, {Vote: -1}, {Kind: 4}, {Kind: -1}, {Kind: math.MinInt}, {Kind: math.MaxInt}, {Kind: 1<<32 + 1}, {Kind: 1<<62 + 2}, {List: one}, {Kind: 4, List: one}, {Kind: 4, Snap: "s"},
		{Kind: impl.RcVote, Prev: 1}, {Kind: impl.RcVote, Prev: -1}, {Kind: impl.RcVote, Prev: 300, Term: 300, Vote: 4}, {Kind: impl.RcVote, List: one}, {Kind: impl.RcVote, Vote: -1, List: manyEntries(40)}, {Kind: impl.RcVote, Snap: "s"}, {Kind: impl.RcVote, Snap: "\x00"},
		{Kind: impl.RcPut, Vote: -1}, {Kind: impl.RcPut, Vote: 1}, {Kind: impl.RcPut, Vote: 4, List: one}, {Kind: impl.RcPut, Snap: "s"}, {Kind: impl.RcPut, List: one, Snap: "\x00"}, {Kind: impl.RcPut, Vote: math.MinInt}, {Kind: impl.RcPut, Vote: 5},
		{Kind: impl.RcSnap, Vote: -1}, {Kind: impl.RcSnap, Vote: 1, Snap: "s"}, {Kind: impl.RcSnap, Vote: math.MaxInt, Snap: "s"}, {Kind: impl.RcSnap, List: one}, {Kind: impl.RcSnap, List: one, Snap: "s"},
		recPut(0, 0, manyEntries(41)...), recPut(0, 0, manyEntries(1000)...), recSnap(0, 0, strings.Repeat("s", 30001)), recSnap(1, 1, strings.Repeat("s", 100000)),
	}
	for _, n := range []int{math.MinInt, math.MinInt + 1, -300, -2, -1, 301, 302, 1 << 32, 1<<62 + 5, math.MaxInt - 1, math.MaxInt} {
		list = append(list, recVote(n, 0), recPut(0, n), recPut(n, 0), recPut(0, n, one...), recPut(n, 3, one...), recSnap(0, n, "s"), recSnap(n, 0, "s"))
		for at := range 3 {
			terms := []int{2, 2, 2}
			terms[at] = n
			list = append(list, recPut(4, 2, termsFrom(1, terms...)...))
		}
	}
	for _, vote := range []int{math.MinInt, math.MinInt + 1, -3, -2, 5, 6, 1 << 32, 1<<32 + 1, math.MaxInt - 1, math.MaxInt} {
		list = append(list, recVote(0, vote), recVote(300, vote))
	}
	for _, c := range wrongCmds() {
		for _, at := range []int{0, 1, 20, 39} {
			put := recPut(4, 2, slices.Clone(manyEntries(40))...)
			put.List[at].C = c
			list = append(list, put)
		}
		list = append(list, recPut(0, 0, impl.Entry{C: c}))
	}
	return append(list, impl.Rec{Kind: math.MaxInt, Term: math.MinInt, Vote: math.MaxInt, Prev: math.MinInt, List: make([]impl.Entry, 41), Snap: "s"}, recPut(-1, 301, impl.Entry{Term: -1}))
}

func TestRecConstants(t *testing.T) {
	if impl.RcVote != 1 || impl.RcPut != 2 || impl.RcSnap != 3 || impl.MaxNodes != 5 || impl.MaxList != 40 || impl.MaxSnap != 30000 {
		t.Error("constants")
	}
}

func TestRecOk(t *testing.T) {
	for _, r := range rightRecs() {
		checkRecOk(t, r, true)
	}
	for _, r := range wrongRecs() {
		checkRecOk(t, r, false)
	}
}

// TestRecOkNumbers: each Kind with each of its numbers at its ends, and with what
// it does not name.
func TestRecOkNumbers(t *testing.T) {
	numbers := []int{math.MinInt, -2, -1, 0, 1, 4, 5, 299, 300, 301, 1 << 32, math.MaxInt}
	among := func(n int, most int) bool { return 0 <= n && n <= most }
	for _, term := range numbers {
		for _, prev := range numbers {
			for _, vote := range numbers {
				right := map[int]bool{
					impl.RcVote: among(term, 300) && prev == 0 && among(vote+1, 5),
					impl.RcPut:  among(term, 300) && among(prev, 300) && vote == 0,
				}
				right[impl.RcSnap] = right[impl.RcPut]
				for kind := -1; kind <= 5; kind++ {
					r := impl.Rec{Kind: kind, Term: term, Vote: vote, Prev: prev}
					checkRecOk(t, r, right[kind])
					r.List = manyEntries(2)
					checkRecOk(t, r, right[kind] && kind == impl.RcPut)
					r.Snap = "s"
					checkRecOk(t, r, false)
					r.List = nil
					checkRecOk(t, r, right[kind] && kind == impl.RcSnap)
				}
			}
		}
	}
}

// TestRecOkEntries: an entry of each Term and of each command, ahead of others and
// behind them; Terms of a record need not ascend.
func TestRecOkEntries(t *testing.T) {
	for _, c := range edgeCmds() {
		for _, term := range []int{math.MinInt, -1, 0, 150, 300, 301, math.MaxInt} {
			right := rightCmd(c) && term >= 0 && term <= 300
			e := impl.Entry{Term: term, C: c}
			checkRecOk(t, recPut(0, 0, e), right)
			checkRecOk(t, recPut(300, 300, slices.Concat(manyEntries(5), []impl.Entry{e})...), right)
			checkRecOk(t, recPut(300, 300, slices.Concat([]impl.Entry{e}, manyEntries(5))...), right)
		}
	}
	for count := range 60 {
		checkRecOk(t, recPut(0, 0, manyEntries(count)...), count <= 40)
	}
	for _, count := range []int{29998, 29999, 30000, 30001, 30002, 65536, 95536} {
		checkRecOk(t, recSnap(0, 0, strings.Repeat("s", count)), count <= 30000)
	}
}

func checkSum(t *testing.T, b string, want int) {
	t.Helper()
	if got := impl.SumOf([]byte(b)); got != want {
		t.Errorf("SumOf of %d bytes %.40q is %d, want %d", len(b), b, got, want)
	}
}

// TestSumByHand: the last ones are where the first number comes to 65521 itself,
// and where both pass it.
func TestSumByHand(t *testing.T) {
	checkSum(t, "", 1)
	checkSum(t, "\x00", 1*65536+1)
	checkSum(t, "\x01", 2*65536+2)
	checkSum(t, "\xff", 256*65536+256)
	checkSum(t, "\x00\x00\x00", 3*65536+1)
	checkSum(t, "\x01\x02", 6*65536+4)
	checkSum(t, "\x02\x01", 7*65536+4)
	checkSum(t, "abc", 590*65536-65536+295)
	checkSum(t, "Wikipedia", 0x11e60398)
	checkSum(t, strings.Repeat("\x00", 65520), 65520*65536+1)
	checkSum(t, strings.Repeat("\x00", 65521), 1)
	checkSum(t, strings.Repeat("\x00", 65523), 2*65536+1)
	checkSum(t, strings.Repeat("\xff", 256)+"\xef", (2048+65520)%65521*65536+65520)
	checkSum(t, strings.Repeat("\xff", 256)+"\xf0", 2048*65536)
	checkSum(t, strings.Repeat("\xff", 256)+"\xf1", 2049*65536+1)
	checkSum(t, strings.Repeat("\xff", 300), 47375*65536+10980)
}

// TestRecBytesByHand: small records of each Kind, byte by byte.
func TestRecBytesByHand(t *testing.T) {
	for _, c := range []struct {
		r    impl.Rec
		want string
	}{
		{recVote(3, 1), "\x06\x01\x03\x02\x00\x00\x00" + "\x07\x00\x23\x00"},
		{recVote(0, -1), "\x06\x01\x00\x00\x00\x00\x00" + "\x02\x00\x0c\x00"},
		{recVote(0, 0), "\x06\x01\x00\x01\x00\x00\x00" + "\x03\x00\x10\x00"},
		{recVote(300, 4), "\x07\x01\xac\x02\x05\x00\x00\x00" + "\xb5\x00\x34\x04"},
		{recPut(0, 0), "\x06\x02\x00\x01\x00\x00\x00" + "\x04\x00\x16\x00"},
		{recPut(0, 0, impl.Entry{C: cmdOf(-1, 0, "")}), "\x0a\x02\x00\x01\x00\x01\x00\x00\x00\x00\x00" + "\x05\x00\x2c\x00"},
		{recPut(128, 1, impl.Entry{Term: 2, C: cmdOf(1, 300, "ab")}), "\x0e\x02\x01\x01\x80\x01\x01\x02\x02\xac\x02\x02ab\x00" + "\xfe\x01\xf5\x0b"},
		{recSnap(0, 0, ""), "\x06\x03\x00\x01\x00\x00\x00" + "\x05\x00\x1c\x00"},
		{recSnap(300, 5, "\xff"), "\x08\x03\x05\x01\xac\x02\x00\x01\xff" + "\xb8\x01\xae\x04"},
	} {
		checkBytes(t, "RecBytes of "+shownRec(c.r), impl.RecBytes(c.r), []byte(c.want))
		checkWritten(t, c.r)
	}
	// One entry behind the other, and 128 bytes of a body.
	two := impl.RecBytes(recPut(1, 2, impl.Entry{Term: 3, C: cmdOf(0, 1, "")}, impl.Entry{Term: 1, C: cmdOf(2, 128, "x")}))
	checkBytes(t, "two entries", two[:len(two)-4], []byte("\x10\x02\x02\x01\x01\x02\x03\x01\x01\x00\x01\x03\x80\x01\x01x\x00"))
	long := impl.RecBytes(recSnap(1, 2, strings.Repeat("s", 122)))
	checkBytes(t, "128 bytes of a body", long[:9], []byte("\x80\x01\x03\x02\x01\x01\x00\x7as"))
}

// TestRecWritten is promise 19 of records of each Kind, also at the limits.
func TestRecWritten(t *testing.T) {
	for _, r := range rightRecs() {
		checkWritten(t, r)
	}
	for term := range 301 {
		checkWritten(t, recVote(term, term%6-1))
		checkWritten(t, recPut(300-term, term, termsFrom(1, term, 300-term)...))
		checkWritten(t, recSnap(term, 300-term, strings.Repeat("s", term)))
	}
}

// TestRecBytesWrong: of what is not RecOk there are no bytes, and from its bytes,
// written down by others, nothing is read.
func TestRecBytesWrong(t *testing.T) {
	for _, r := range wrongRecs() {
		checkBytes(t, "RecBytes of "+shownRec(r), impl.RecBytes(r), nil)
		for _, behind := range surroundings() {
			checkNoRec(t, bytesOf(recBytesMeant(r), behind), 0)
			checkRecs(t, bytesOf(recBytesMeant(r), behind), 0)
		}
	}
}

// TestRecCut: the bytes of a record end too early, at each place, alone and with
// bytes of another list behind them.
func TestRecCut(t *testing.T) {
	for _, r := range append(smallRecs(), fullRecs()[1]) {
		b := recBytesMeant(r)
		for cut := range b {
			checkNoRec(t, b[:cut], 0)
			checkRecs(t, b[:cut], 0)
			checkNoRec(t, bytesOf(b, b[:cut]), len(b))
			checkRecs(t, bytesOf(b, b[:cut]), len(b), r)
			// What stands ahead does not count for it, nor the room of the list.
			checkNoRec(t, bytesOf(bytes.Repeat([]byte{65}, 300), b[:cut]), 300)
			room := slices.Clone(b)
			checkNoRec(t, room[:cut], 0)
			checkNoRec(t, b[cut+1:], 0)
		}
	}
}

// TestRecTorn: one byte of a record turned, each place by each byte: nothing is read
// there, and the record ahead of it stays.
func TestRecTorn(t *testing.T) {
	first := recVote(3, 1)
	ahead := recBytesMeant(first)
	for _, r := range smallRecs() {
		b := bytesOf(ahead, recBytesMeant(r))
		for at := len(ahead); at < len(b); at++ {
			kept := b[at]
			for one := range 256 {
				if b[at] = byte(one); b[at] == kept {
					continue
				}
				checkNoRec(t, b, len(ahead))
				checkRecs(t, b, len(ahead), first)
			}
			b[at] = kept
		}
	}
	for _, r := range fullRecs() {
		b := recBytesMeant(r)
		for at := 0; at < len(b); at += 1 + len(b)/200 {
			b[at] ^= 1
			checkNoRec(t, b, 0)
			b[at] ^= 129
			checkNoRec(t, b, 0)
			b[at] ^= 128
		}
		checkGotRec(t, b, 0, r, len(b))
	}
}

// TestRecOtherLengths: a length that is not that of the body, with the sum that was
// there, and with the one of so many bytes.
func TestRecOtherLengths(t *testing.T) {
	zeros := make([]byte, 300)
	for _, r := range smallRecs() {
		body := bodyMeant(r)
		rest := bytesOf(body, sumMeant(body), zeros)
		for length := range len(body) + 200 {
			if length == len(body) {
				continue
			}
			checkNoRec(t, bytesOf(numMeant(length), rest), 0)
			checkNoRec(t, framed(rest[:length]), 0)
			checkNoRec(t, bytesOf(numMeant(length), body), 0)
		}
		for _, length := range []int{30100, 100000, 1 << 31, 1 << 32, 1<<32 + len(body), big61, big62 - 4, big62 - 1, big62, big62 + 1, math.MaxInt, -1, -2, -len(body)} {
			checkNoRec(t, bytesOf(numMeant(length), rest), 0)
			checkRecs(t, bytesOf(numMeant(length), rest), 0)
		}
	}
}

// TestRecOtherSums: a sum that is another one, of other bytes or in another order.
func TestRecOtherSums(t *testing.T) {
	for _, r := range append(smallRecs(), fullRecs()...) {
		body := bodyMeant(r)
		ahead, sum := bytesOf(numMeant(len(body)), body), sumMeant(body)
		swapped := []byte{sum[3], sum[2], sum[1], sum[0]}
		halves := []byte{sum[2], sum[3], sum[0], sum[1]}
		whole := sumMeant(ahead)
		for _, other := range [][]byte{swapped, halves, whole, sumMeant(nil), sumMeant(body[1:]), sumMeant([]byte(r.Snap)), {0, 0, 0, 0}, {255, 255, 255, 255}, {sum[0] + 1, sum[1], sum[2], sum[3]}, {sum[0], sum[1], sum[2], sum[3] + 1}} {
			checkNoRec(t, bytesOf(ahead, other, sum), 0)
		}
		checkGotRec(t, bytesOf(ahead, sum, sum), 0, r, len(ahead)+4)
	}
}

// TestRecLeftOver: bytes left over within the body, with a sum that is right.
func TestRecLeftOver(t *testing.T) {
	for _, r := range append(smallRecs(), fullRecs()...) {
		body := bodyMeant(r)
		for _, more := range append(surroundings()[1:], body, sumMeant(body), make([]byte, 200)) {
			b := framed(bytesOf(body, more))
			checkNoRec(t, b, 0)
			checkRecs(t, bytesOf(b, framed(body)), 0)
			checkNoRec(t, framed(bytesOf(more, body)), 0)
		}
		checkGotRec(t, framed(body), 0, r, len(framed(body)))
	}
}

// TestRecNoBody: a sum that is right over what is no body.
func TestRecNoBody(t *testing.T) {
	var most []byte
	for _, e := range manyEntries(41) {
		most = append(most, entryMeant(e)...)
	}
	bodies := [][]byte{
		nil, {0}, {1}, {2}, {3}, {1, 0, 0, 0, 0}, {128}, {255, 255, 255, 255, 255, 255, 255, 255, 255, 1}, []byte("a body"), make([]byte, 6), make([]byte, 300), bytes.Repeat([]byte{1}, 100), bytes.Repeat([]byte{255}, 100),
		{0, 0, 0, 0, 0, 0}, {0, 0, 1, 0, 0, 0}, {4, 0, 1, 0, 0, 0}, {4, 0, 0, 0, 0, 0}, {2, 0, 0, 0, 0, 0}, {3, 0, 0, 0, 0, 0}, {2, 0, 2, 0, 0, 0}, {1, 0, 6, 0, 0, 0}, {1, 0, 0, 1, 0, 0}, {1, 0, 0, 0, 0, 1, 's'}, {1, 0, 0, 0, 1, 0, 0, 0, 0, 0},
		{2, 0, 1, 0, 1, 0, 0, 0, 0}, {2, 0, 1, 0, 2, 0, 0, 0, 0, 0}, {2, 0, 1, 0, 0, 1, 's'}, {3, 0, 1, 0, 0, 2, 's'}, {3, 0, 1, 0, 0, 0, 's'}, {3, 0, 1, 0, 1, 0, 0, 0, 0, 0}, {2, 0, 1, 0, 1, 0, 1, 0, 0, 0}, {2, 0, 1, 0, 1, 0, 1, 1, 1, '\n', 0}, {2, 0, 1, 0, 1, 0, 4, 1, 0, 0}, {2, 0, 1, 0, 1, 0, 0, 1, 0, 0}, {2, 0, 1, 0, 1, 0, 0, 0, 1, 'a', 0},
		bytesOf([]byte{2, 0, 1, 0, 41}, most, []byte{0}), bytesOf([]byte{2, 0, 1, 0, 40}, most, []byte{0}),
	}
	for _, count := range []int{41, 50, 1000000, 1 << 32, big61, big62} {
		bodies = append(bodies, bytesOf([]byte{2, 0, 1, 0}, numMeant(count)), bytesOf([]byte{2, 0, 1, 0}, numMeant(count), make([]byte, 1000)), bytesOf([]byte{3, 0, 1, 0, 0}, numMeant(count), make([]byte, 40)))
	}
	for _, n := range []int{301, 1 << 32, big61, big62} {
		bodies = append(bodies, bytesOf(numMeant(n), []byte{0, 1, 0, 0, 0}), bytesOf([]byte{2}, numMeant(n), []byte{1, 0, 0, 0}), bytesOf([]byte{1, 0}, numMeant(n), []byte{0, 0, 0}), bytesOf([]byte{2, 0, 1}, numMeant(n), []byte{0, 0}), bytesOf([]byte{2, 0, 1, 0, 1}, numMeant(n), []byte{0, 0, 0, 0}), bytesOf([]byte{2, 0, 1, 0, 1, 0}, numMeant(n), []byte{0, 0, 0}))
	}
	for _, body := range bodies {
		checkNoRec(t, framed(body), 0)
		checkRecs(t, framed(body), 0)
		checkNoRec(t, bytesOf([]byte{9, 9}, framed(body), framed(body)), 2)
	}
}

// TestRecLongForms: each number of a record that is not the shortest, its length as
// well.
func TestRecLongForms(t *testing.T) {
	for _, r := range append(smallRecs(), fullRecs()...) {
		parts := recParts(r)
		checkGotRec(t, framed(bytesOf(parts...)), 0, r, len(recBytesMeant(r)))
		for i, part := range parts {
			if _, next, ok := numAtMeant(part, 0); !ok || next != len(part) {
				continue
			}
			for _, long := range longForms(part) {
				turned := slices.Clone(parts)
				turned[i] = long
				checkNoRec(t, framed(bytesOf(turned...)), 0)
			}
		}
		body := bodyMeant(r)
		for _, long := range longForms(numMeant(len(body))) {
			checkNoRec(t, bytesOf(long, body, sumMeant(body)), 0)
		}
	}
}

// TestRecPlaces: there is nothing at what is no place, at the end, or within a
// record.
func TestRecPlaces(t *testing.T) {
	lists := [][]byte{nil, {}, {0}, {6}, {128, 1}, {0, 1, 0, 0, 0}, recBytesMeant(recVote(3, 1)), bytesOf(recBytesMeant(recVote(3, 1)), recBytesMeant(recSnap(1, 1, "s"))), make([]byte, 50)}
	for _, b := range lists {
		for _, at := range []int{-1, -2, -4, -len(b), -len(b) - 1, -1 << 32, math.MinInt, math.MinInt + 1, len(b), len(b) + 1, len(b) + 2, 2*len(b) + 3, 1 << 32, math.MaxInt - 4, math.MaxInt - 1, math.MaxInt} {
			if at < 0 || at >= len(b) {
				checkNoRec(t, b, at)
			}
		}
	}
	b := recBytesMeant(recVote(3, 1))
	for at := 1; at <= len(b); at++ {
		checkNoRec(t, b, at)
	}
	// A record that stands within another one begins there.
	inner := recSnap(4, 5, "inner")
	outer := recSnap(1, 2, "ab"+string(recBytesMeant(inner))+"cd")
	b = recBytesMeant(outer)
	at := bytes.Index(b, recBytesMeant(inner))
	checkGotRec(t, b, at, inner, at+len(recBytesMeant(inner)))
	checkGotRec(t, b, 0, outer, len(b))
	checkRecs(t, b, len(b), outer)
}

// behindEachOther are the bytes of records, and the place of each, the last one
// behind all.
func behindEachOther(list []impl.Rec) ([]byte, []int) {
	var b []byte
	places := []int{0}
	for _, r := range list {
		b = append(b, recBytesMeant(r)...)
		places = append(places, len(b))
	}
	return b, places
}

// TestRecsBehindEachOther is promise 19 of many records: each from its place, all
// by Recs, and as many as there are up to each place.
func TestRecsBehindEachOther(t *testing.T) {
	checkRecs(t, nil, 0)
	checkRecs(t, []byte{}, 0)
	for _, list := range [][]impl.Rec{smallRecs(), rightRecs(), slices.Repeat(smallRecs()[:1], 500), {recPut(1, 2), recPut(1, 2), recVote(1, 1)}} {
		b, places := behindEachOther(list)
		for i, r := range list {
			checkGotRec(t, b, places[i], r, places[i+1])
			checkRecs(t, b[:places[i]], places[i], list[:i]...)
			checkRecs(t, b[places[i]:], len(b)-places[i], list[i:]...)
		}
		for _, behind := range append(surroundings(), b[:3], make([]byte, 5000)) {
			checkRecs(t, bytesOf(b, behind), len(b), list...)
		}
	}
}

// TestRecsTorn: the first one, those in the middle and the last one are torn, or
// end too early: those ahead of it are told, what is behind it is left away.
func TestRecsTorn(t *testing.T) {
	list := smallRecs()
	b, places := behindEachOther(list)
	for i := range list {
		for at := places[i]; at < places[i+1]; at++ {
			for _, by := range []byte{1, 2, 64, 128, 255} {
				b[at] ^= by
				checkRecs(t, b, places[i], list[:i]...)
				b[at] ^= by
			}
			checkRecs(t, b[:at], places[i], list[:i]...)
			checkRecs(t, slices.Delete(slices.Clone(b), at, at+1), places[i], list[:i]...)
			checkRecs(t, slices.Insert(slices.Clone(b), at, b[at]^1), places[i], list[:i]...)
			// What is behind is not reached over bytes that are empty.
			hole := slices.Clone(b)
			clear(hole[at:min(at+20, len(b))])
			if hole[at] != b[at] {
				checkRecs(t, hole, places[i], list[:i]...)
			}
		}
	}
	checkRecs(t, b, len(b), list...)
	for _, r := range wrongRecs() {
		checkRecs(t, bytesOf(b, recBytesMeant(r), b), len(b), list...)
	}
}

func cloneRec(r impl.Rec) impl.Rec {
	r.List = slices.Clone(r.List)
	return r
}

// checkOwnRecs asks for the same records twice: no list of them turns when the
// others, or the room behind them, are written over.
func checkOwnRecs(t *testing.T, want []impl.Rec, ask func() []impl.Rec) {
	t.Helper()
	check := func(list []impl.Rec, from int) {
		t.Helper()
		for i := from; i < len(want); i++ {
			if len(list) != len(want) || !sameRec(list[i], want[i]) {
				t.Errorf("record %d of %d turns with others: %s", i, len(list), shownRec(want[i]))
				return
			}
		}
	}
	first, second := ask(), ask()
	check(first, 0)
	for i := range first {
		spoiltEntries(first[i].List)
		check(first, i+1)
	}
	check(second, 0)
	for i := range first[:cap(first)] {
		first[:cap(first)][i] = impl.Rec{Kind: -8}
	}
	check(second, 0)
	check(ask(), 0)
}

// TestRecsWriteNothing: neither into what is handed in nor behind it; what was read
// stays so, when the bytes turn.
func TestRecsWriteNothing(t *testing.T) {
	room := impl.Entry{Term: 77, C: cmdOf(1, 777, "room")}
	for _, r := range append(rightRecs(), wrongRecs()...) {
		cut, whole := r, r
		cut.List, whole.List = withRoom(r.List, room)
		before := cloneRec(whole)
		impl.RecOk(cut)
		ownBytes(t, func() []byte { return impl.RecBytes(cut) })
		kept := impl.RecBytes(cut)
		checkRec(t, "what was handed in", whole, before)
		spoiltEntries(cut.List)
		checkBytes(t, "what was written, behind its record", kept, impl.RecBytes(r))
	}
	all, places := behindEachOther(rightRecs())
	for _, bytesThere := range [][]byte{all, all[:len(all)-1], framed([]byte("no body")), recBytesMeant(wrongRecs()[0]), make([]byte, 100), nil} {
		b, whole := withRoom(bytesThere, 99)
		before := slices.Clone(whole)
		list, used := impl.Recs(b)
		want := rightRecs()[:len(list)]
		if used != places[len(list)] {
			t.Errorf("%d records in %d bytes", len(list), used)
		}
		checkOwnRecs(t, want, func() []impl.Rec { list, _ := impl.Recs(b); return list })
		for i, at := range places[:len(list)] {
			checkOwnRecs(t, want[i:i+1], func() []impl.Rec { r, _, _ := impl.RecOf(b, at); return []impl.Rec{r} })
		}
		for _, at := range []int{-1, 1, 5, len(b), math.MaxInt} {
			impl.RecOf(b, at)
		}
		impl.SumOf(b)
		checkBytes(t, "what was handed in", whole, before)
		for i := range whole {
			whole[i] = 88
		}
		for i, r := range list {
			checkRec(t, "what was read, behind its bytes", r, want[i])
		}
	}
}

// TestRecsSoon: what tells more than there is, or more than there may be, is
// refused without room for it; many records take no longer than their bytes.
func TestRecsSoon(t *testing.T) {
	zeros := make([]byte, 20000000)
	for _, count := range []int{0, 41, 30001, 1000000, 19999990, 1 << 32, big62} {
		checkNoRec(t, bytesOf(numMeant(count), zeros), 0)
		checkNoRec(t, framed(bytesOf([]byte{2, 0, 1, 0}, numMeant(count), zeros)), 0)
		checkNoRec(t, framed(bytesOf([]byte{3, 0, 1, 0, 0}, numMeant(count), zeros[:max(0, min(count, len(zeros)))])), len(zeros)*2)
	}
	checkNoRec(t, bytes.Repeat([]byte{255}, 20000000), 0)
	list := slices.Repeat([]impl.Entry{{C: cmdOf(0, 1, "a")}}, 3000000)
	for range 300 {
		checkRecOk(t, recPut(0, 0, list...), false)
		checkRecOk(t, recSnap(0, 0, string(zeros[:50000])), false)
	}
	one := recBytesMeant(recVote(3, 1))
	if got, used := impl.Recs(bytes.Repeat(one, 200000)); len(got) != 200000 || used != 200000*len(one) {
		t.Errorf("%d records in %d bytes", len(got), used)
	}
}
