package tests

import (
	"fmt"
	"math"
	"math/rand"
	"regexp"
	"slices"
	"strings"
	"testing"

	"loop.example/g00289/impl"
)

func parsed(t *testing.T, s string) impl.Rex {
	t.Helper()
	r, ok := impl.RexParse(s)
	if !ok {
		t.Fatalf("%q is no pattern", s)
	}
	return r
}

// fitsPiece tells whether the bytes of s from one place to another are such a
// piece, by what chapter 3 says of each op and by all ways to split them.
func fitsPiece(r impl.Rex, s string, from int, to int) bool {
	one := to == from+1
	switch r.Op {
	case impl.RxChar:
		return one && int(s[from]) == r.C
	case impl.RxAny:
		return one
	case impl.RxSet:
		return one && strings.Contains(r.Set, s[from:to]) != r.Not
	case impl.RxStart:
		return from == to && from == 0
	case impl.RxEnd:
		return from == to && to == len(s)
	case impl.RxCat:
		return fitsRow(r.Kids, s, from, to)
	case impl.RxOr:
		return slices.ContainsFunc(r.Kids, func(kid impl.Rex) bool { return fitsPiece(kid, s, from, to) })
	case impl.RxStar:
		return from == to || fitsOften(r.Kids[0], s, from, to)
	case impl.RxPlus:
		return fitsPiece(r.Kids[0], s, from, to) || fitsOften(r.Kids[0], s, from, to)
	case impl.RxMay:
		return from == to || fitsPiece(r.Kids[0], s, from, to)
	}
	return from == to
}

func fitsRow(kids []impl.Rex, s string, from int, to int) bool {
	if len(kids) == 1 {
		return fitsPiece(kids[0], s, from, to)
	}
	for mid := from; mid <= to; mid++ {
		if fitsPiece(kids[0], s, from, mid) && fitsRow(kids[1:], s, mid, to) {
			return true
		}
	}
	return false
}

// fitsOften: pieces one behind the other, none of them of nothing.
func fitsOften(kid impl.Rex, s string, from int, to int) bool {
	for mid := from + 1; mid <= to; mid++ {
		if fitsPiece(kid, s, from, mid) && (mid == to || fitsOften(kid, s, mid, to)) {
			return true
		}
	}
	return false
}

// endsBySplits is MatchTree by fitsPiece.
func endsBySplits(r impl.Rex, s string, at int) []int {
	var list []int
	if at < 0 {
		return nil
	}
	for to := at; to <= len(s); to++ {
		if fitsPiece(r, s, at, to) {
			list = append(list, to)
		}
	}
	return list
}

// endsByPlaces is where pieces end along a list that is right, by going to each
// place of it at each place of the text that can be come to.
func endsByPlaces(list []impl.Place, s string, at int) []int {
	type spot struct{ place, at int }
	seen := map[spot]int{}
	var found []int
	var visit func(x spot)
	visit = func(x spot) {
		if seen[x] > 0 {
			return
		}
		seen[x] = 1
		p := list[x.place]
		byteHere := ""
		if x.at < len(s) {
			byteHere = s[x.at : x.at+1]
		}
		switch {
		case p.Op == impl.NfDone:
			found = append(found, x.at)
		case p.Op == impl.NfJump:
			visit(spot{p.A, x.at})
		case p.Op == impl.NfFork:
			visit(spot{p.B, x.at})
			visit(spot{p.A, x.at})
		case p.Op == impl.NfStart && x.at == 0, p.Op == impl.NfEnd && x.at == len(s):
			visit(spot{x.place + 1, x.at})
		case byteHere == "":
		case p.Op == impl.NfAny, p.Op == impl.NfByte && int(byteHere[0]) == p.C, p.Op == impl.NfSet && strings.Contains(p.Set, byteHere) != p.Not:
			visit(spot{x.place + 1, x.at + 1})
		}
	}
	if at >= 0 && at <= len(s) {
		visit(spot{0, at})
	}
	slices.Sort(found)
	return found
}

func lastOf(ends []int) int {
	if len(ends) == 0 {
		return -1
	}
	return ends[len(ends)-1]
}

// checkFits holds MatchAt and Match of a list that is right against the ends of
// pieces at each place of s, and at those ahead of it and behind it.
func checkFits(t *testing.T, list []impl.Place, s string, endsAt func(at int) []int) {
	t.Helper()
	wantFrom, wantTo, wantOk := 0, 0, false
	for at := len(s) + 1; at >= -1; at-- {
		want := lastOf(endsAt(at))
		if got := impl.MatchAt(list, s, at); got != want {
			t.Fatalf("MatchAt(%v, %q, %d) = %d; want %d", list, s, at, got, want)
		}
		if want >= 0 {
			wantFrom, wantTo, wantOk = at, want, true
		}
	}
	if from, to, ok := impl.Match(list, s); from != wantFrom || to != wantTo || ok != wantOk {
		t.Fatalf("Match(%v, %q) = %d, %d, %v; want %d, %d, %v", list, s, from, to, ok, wantFrom, wantTo, wantOk)
	}
}

// checkRexFits holds all four against these ends.
func checkRexFits(t *testing.T, r impl.Rex, s string, endsAt func(at int) []int) {
	t.Helper()
	list := impl.NfaOf(r)
	checkFits(t, list, s, endsAt)
	some := false
	for at := -1; at <= len(s)+1; at++ {
		want := endsAt(at)
		if got := impl.MatchTree(r, s, at); !slices.Equal(got, want) {
			t.Fatalf("MatchTree(%v, %q, %d) = %v; want %v", r, s, at, got, want)
		}
		some = some || len(want) > 0
	}
	if got := impl.MatchRex(r, s); got != some {
		t.Fatalf("MatchRex(%v, %q) = %v; want %v", r, s, got, some)
	}
}

func TestMatchTreeEnds(t *testing.T) {
	for _, k := range []struct {
		pattern string
		s       string
		at      int
		want    []int
	}{
		{"a", "aa", 0, []int{1}}, {"a", "aa", 1, []int{2}}, {"a", "aa", 2, nil}, {"a", "b", 0, nil}, {"a", "", 0, nil},
		{"b+c?", "abbcb", 0, nil}, {"b+c?", "abbcb", 1, []int{2, 3, 4}}, {"b+c?", "abbcb", 2, []int{3, 4}}, {"b+c?", "abbcb", 3, nil}, {"b+c?", "abbcb", 4, []int{5}},
		{".", "a\nb", 1, []int{2}}, {"..", "a\x00\xff", 1, []int{3}}, {"abc", "abcabc", 3, []int{6}}, {"abc", "abab", 0, nil}, {"abc", "abab", 2, nil},
		// The same end by many ways is told once.
		{"a|a", "a", 0, []int{1}}, {"(a|a)(a|a)", "aa", 0, []int{2}}, {"a?a?a?", "aa", 0, []int{0, 1, 2}}, {"(a|aa)(aa|a)", "aaaa", 0, []int{2, 3, 4}}, {"(ab|a)(bc|c)", "abc", 0, []int{3}},
		{"a*a*", "aa", 0, []int{0, 1, 2}}, {"(a|aa)*", "aaa", 0, []int{0, 1, 2, 3}}, {"(a*)*", "aa", 1, []int{1, 2}}, {"(a*)+", "aab", 0, []int{0, 1, 2}},
		// Ends that ascend, whichever part comes first.
		{"aaa|a|aa", "aaaa", 0, []int{1, 2, 3}}, {"a|aaa", "aaaa", 0, []int{1, 3}}, {"aaa|a", "aaaa", 0, []int{1, 3}}, {"aa|", "aa", 0, []int{0, 2}}, {"|aa", "aa", 0, []int{0, 2}},
		{"(aaa|aa)*", "aaaaaaa", 0, []int{0, 2, 3, 4, 5, 6, 7}}, {"(aaa|aaaaa)+", "aaaaaaaaa", 0, []int{3, 5, 6, 8, 9}}, {"(.*b)*", "abab", 0, []int{0, 2, 4}},
		// Pieces of nothing.
		{"", "", 0, []int{0}}, {"", "ab", 1, []int{1}}, {"", "ab", 2, []int{2}}, {"()", "a", 1, []int{1}}, {"a*", "", 0, []int{0}}, {"a?", "b", 0, []int{0}}, {"a?", "b", 1, []int{1}}, {"a*", "ba", 0, []int{0}},
		{"|", "", 0, []int{0}}, {"a|", "b", 0, []int{0}}, {"()*", "a", 0, []int{0}}, {"()+", "a", 1, []int{1}}, {"(a?)+", "", 0, []int{0}}, {"(a?)+", "aab", 0, []int{0, 1, 2}}, {"(a?b?)*", "abba", 0, []int{0, 1, 2, 3, 4}},
		{"a+", "", 0, nil}, {"(a|)+b", "aab", 0, []int{3}}, {"(|a)+b", "aab", 0, []int{3}},
		// Where the text begins and ends.
		{"^", "ab", 0, []int{0}}, {"^", "ab", 1, nil}, {"^", "ab", 2, nil}, {"$", "ab", 0, nil}, {"$", "ab", 1, nil}, {"$", "ab", 2, []int{2}}, {"^$", "", 0, []int{0}}, {"$^", "", 0, []int{0}}, {"$^", "a", 0, nil},
		{"^a", "aa", 0, []int{1}}, {"^a", "aa", 1, nil}, {"a$", "aa", 0, nil}, {"a$", "aa", 1, []int{2}}, {"a^b", "ab", 0, nil}, {"a$b", "ab", 0, nil}, {"a^", "a", 0, nil}, {"$a", "a", 0, nil},
		{"(^a)*", "aa", 0, []int{0, 1}}, {"(^a)*", "aa", 1, []int{1}}, {"(^a|b)*", "abb", 0, []int{0, 1, 2, 3}}, {"(^a)+", "aa", 1, nil}, {"(a$)*", "aa", 0, []int{0}}, {"(a$)*", "aa", 1, []int{1, 2}}, {"(a$|a)+", "aaa", 0, []int{1, 2, 3}},
		{"^*", "a", 1, []int{1}}, {"^+", "a", 1, nil}, {"^+", "a", 0, []int{0}}, {"$*", "a", 0, []int{0}}, {"$+", "a", 1, []int{1}}, {"(^|a)+", "aa", 0, []int{0, 1, 2}}, {"(^|a)+", "aa", 1, []int{2}}, {"(a|$)+", "ba", 1, []int{2}}, {"^^a$$", "a", 0, []int{1}},
	} {
		r := parsed(t, k.pattern)
		if got := impl.MatchTree(r, k.s, k.at); !slices.Equal(got, k.want) {
			t.Errorf("MatchTree of %q (%q, %d) = %v; want %v", k.pattern, k.s, k.at, got, k.want)
		}
		if got := impl.MatchAt(impl.NfaOf(r), k.s, k.at); got != lastOf(k.want) {
			t.Errorf("MatchAt of %q (%q, %d) = %d; want %d", k.pattern, k.s, k.at, got, lastOf(k.want))
		}
		checkRexFits(t, r, k.s, func(at int) []int { return endsBySplits(r, k.s, at) })
	}
}

func TestMatchFirstLongest(t *testing.T) {
	for _, k := range []struct {
		pattern  string
		s        string
		from, to int
		ok       bool
	}{
		{"b+c?", "abbcb", 1, 4, true}, {"a", "bab", 1, 2, true}, {"a", "bbb", 0, 0, false}, {"b", "aab", 2, 3, true}, {"ab", "aab", 1, 3, true},
		// The first, also where one behind it is longer, or ends ahead of it.
		{"a|bbb", "abbb", 0, 1, true}, {"abcd|bc", "abcd", 0, 4, true}, {"abcd|bc", "abce", 1, 3, true}, {"abcd|b|c", "abcx", 1, 2, true}, {"a..d|b|cde", "abcdef", 0, 4, true}, {"a....|b|c", "abcd", 1, 2, true},
		{"a.*d|b.*e", "abcde", 0, 4, true}, {"a.*x|bc|c.*e", "abcde", 1, 3, true}, {"aab|ab", "aaab", 1, 4, true}, {"b*", "abbb", 0, 0, true}, {"b+", "abbb", 1, 4, true},
		// The longest there, whichever part comes first.
		{"a|ab|abc", "xabcd", 1, 4, true}, {"abc|ab|a", "xabcd", 1, 4, true}, {"ab|abc|a", "xabcd", 1, 4, true}, {"a|abcx", "abcd", 0, 1, true}, {"a|ab(cx)?", "abcd", 0, 2, true}, {"(a|ab)(c|bcd)", "abcd", 0, 4, true}, {"(ab|a)(bcd|c)", "abcd", 0, 4, true},
		{"|a", "a", 0, 1, true}, {"a|", "a", 0, 1, true}, {"a??", "a", 0, 1, true}, {"(|a)+", "aaa", 0, 3, true}, {"(a|)*", "aaab", 0, 3, true},
		// Pieces of nothing.
		{"", "", 0, 0, true}, {"", "abc", 0, 0, true}, {"a*", "", 0, 0, true}, {"a?", "", 0, 0, true}, {"a+", "", 0, 0, false}, {"a*", "baa", 0, 0, true}, {"()", "a", 0, 0, true}, {"a*$", "baab", 4, 4, true}, {"a*$", "baaba", 4, 5, true}, {"()*a", "ba", 1, 2, true},
		{"a|$", "bb", 2, 2, true}, {"a|$", "bba", 2, 3, true},
		// Where the text begins and ends.
		{"^", "abc", 0, 0, true}, {"$", "abc", 3, 3, true}, {"$", "", 0, 0, true}, {"^$", "", 0, 0, true}, {"^$", "a", 0, 0, false}, {"^b", "ab", 0, 0, false}, {"a$", "ab", 0, 0, false}, {"b$", "bab", 2, 3, true}, {"^b|b$", "abab", 3, 4, true},
		{"b^|a", "ba", 1, 2, true}, {"a^b", "ab", 0, 0, false}, {"a$b", "ab", 0, 0, false}, {"^.*$", "ab\ncd", 0, 5, true}, {"(^a)+", "aaa", 0, 1, true}, {"(a$)+", "aaa", 2, 3, true}, {"(^|b)a", "aba", 0, 1, true}, {"(^|b)a", "ababa", 0, 1, true}, {"(^|b)a", "cba", 1, 3, true},
		{"^+a", "aa", 0, 1, true}, {"^*a", "ba", 1, 2, true}, {"(a|^)(a|^)b", "aab", 0, 3, true}, {"(^a|b$)*", "ab", 0, 2, true}, {"\n^", "\na", 0, 0, false}, {"a$", "a\n", 0, 0, false},
		// Sets, sets that are not, and the first and the last byte.
		{"[b-d]+", "abcde", 1, 4, true}, {"[^b-d]+", "bcaed", 2, 4, true}, {"[^a]", "aaa", 0, 0, false}, {"[^a]", "aa\x00", 2, 3, true}, {"[^a]", "aa\xff", 2, 3, true}, {"[\x00-\xff]+", "\xff\x00a", 0, 3, true}, {"[^\x00-\xff]", "a\x00\xff", 0, 0, false},
		{"\xff", "\xfe\xff", 1, 2, true}, {"\\\x00", "a\x00", 1, 2, true}, {"\x00+", "\xff\x00\x00\xff", 1, 3, true}, {".", "\xff", 0, 1, true}, {".", "\x00", 0, 1, true}, {".", "", 0, 0, false}, {"[\xc3]", "é", 0, 1, true}, {"é", "aé", 1, 3, true}, {".+", "é", 0, 2, true}, {"[é]", "\xa9", 0, 1, true},
		{"a(b|c)*[^x-z]$", "wabcbcz", 0, 0, false}, {"a(b|c)*[^x-z]$", "wabcbca", 1, 7, true},
	} {
		r := parsed(t, k.pattern)
		list := impl.NfaOf(r)
		if from, to, ok := impl.Match(list, k.s); from != k.from || to != k.to || ok != k.ok {
			t.Errorf("Match of %q (%q) = %d, %d, %v; want %d, %d, %v", k.pattern, k.s, from, to, ok, k.from, k.to, k.ok)
		}
		if got := impl.MatchRex(r, k.s); got != k.ok {
			t.Errorf("MatchRex of %q (%q) is %v", k.pattern, k.s, got)
		}
		checkRexFits(t, r, k.s, func(at int) []int { return endsBySplits(r, k.s, at) })
	}
}

// Every short pattern at every short text.
func TestMatchEachText(t *testing.T) {
	check := func(bytes string, most int) func(string) {
		return func(pattern string) {
			r, ok := impl.RexParse(pattern)
			if !ok {
				return
			}
			eachText(bytes, most, func(s string) {
				checkRexFits(t, r, s, func(at int) []int { return endsBySplits(r, s, at) })
			})
		}
	}
	eachText("a|()*+?", 5, check("ab", 3))
	eachText("ab|*?", 5, check("ab", 4))
	eachText("a^$|*+?", 4, check("ab", 3))
	eachText("a^$*()", 6, check("a", 2))
	eachText("ab.|+", 4, check("abc", 4))
	eachText("a[]^-c", 5, check("abc", 2))
}

// fewBytes is some text of few bytes, so that patterns by chance fit it.
func fewBytes(chance *rand.Rand, bytes string, most int) string {
	s := make([]byte, chance.Intn(most+1))
	for i := range s {
		s[i] = bytes[chance.Intn(len(bytes))]
	}
	return string(s)
}

// likelyRex is some Rex, at most so deep, of bytes that fewBytes has.
func likelyRex(chance *rand.Rand, deep int) impl.Rex {
	r := rexByChance(chance, deep)
	var likely func(r impl.Rex) impl.Rex
	likely = func(r impl.Rex) impl.Rex {
		if r.Op == impl.RxChar {
			r.C = int("aab-"[r.C%4])
		}
		for i := range r.Kids {
			r.Kids[i] = likely(r.Kids[i])
		}
		return r
	}
	return likely(r)
}

func TestMatchByChance(t *testing.T) {
	chance := rand.New(rand.NewSource(8))
	some := 0
	for range 30000 {
		r := likelyRex(chance, 1+chance.Intn(4))
		s := fewBytes(chance, "aab-\x00\xff", 5)
		checkRexFits(t, r, s, func(at int) []int { return endsBySplits(r, s, at) })
		if from, to, ok := impl.Match(impl.NfaOf(r), s); ok && from > 0 && to > from {
			some++
		}
	}
	if some < 300 {
		t.Errorf("only %d pieces were found behind the beginning", some)
	}
}

// Deep patterns and longer texts, by the places: ways are far too many to split.
func TestMatchDeepByChance(t *testing.T) {
	chance := rand.New(rand.NewSource(9))
	long := 0
	for range 6000 {
		r := likelyRex(chance, 1+chance.Intn(impl.MaxDeep))
		list := impl.NfaOf(r)
		if len(list) > impl.MaxPlaces {
			continue
		}
		s := fewBytes(chance, "aaab-", 30)
		checkRexFits(t, r, s, func(at int) []int { return endsByPlaces(list, s, at) })
		if len(list) > 50 {
			long++
		}
	}
	if long < 50 {
		t.Errorf("only %d lists were long", long)
	}
}

// goPattern is r as a pattern of Go's own library, of bytes below 128.
func goPattern(r impl.Rex) string {
	var kids []string
	for _, kid := range r.Kids {
		kids = append(kids, "(?:"+goPattern(kid)+")")
	}
	switch r.Op {
	case impl.RxChar:
		return fmt.Sprintf("\\x%02x", r.C)
	case impl.RxSet:
		in := ""
		for _, b := range []byte(r.Set) {
			in += fmt.Sprintf("\\x{%02x}", b)
		}
		if r.Not {
			return "[^" + in + "]"
		}
		return "[" + in + "]"
	case impl.RxOr:
		return strings.Join(kids, "|")
	}
	mark := map[int]string{impl.RxAny: "(?s:.)", impl.RxStart: "\\A", impl.RxEnd: "\\z", impl.RxStar: "*", impl.RxPlus: "+", impl.RxMay: "?", impl.RxNone: "(?:)"}
	return strings.Join(kids, "") + mark[r.Op]
}

// Go's own library finds the first and there the longest one, too.
func TestMatchAsGo(t *testing.T) {
	chance := rand.New(rand.NewSource(10))
	for range 8000 {
		r := likelyRex(chance, 1+chance.Intn(7))
		list := impl.NfaOf(r)
		if len(list) > impl.MaxPlaces {
			continue
		}
		other := regexp.MustCompile(goPattern(r))
		other.Longest()
		for range 5 {
			s := fewBytes(chance, "aab-\n", 60)
			from, to, ok := impl.Match(list, s)
			want := other.FindStringIndex(s)
			if ok != (want != nil) || ok && !slices.Equal(want, []int{from, to}) || !ok && from+to != 0 {
				t.Fatalf("Match of %s (%q) = %d, %d, %v; want %v", other, s, from, to, ok, want)
			}
		}
	}
}

// Each byte of a pattern, of a set and of a text.
func TestMatchEachByte(t *testing.T) {
	for b := range 256 {
		r, set := parsed(t, "\\"+allBytes(b, b)), impl.Place{Op: impl.NfSet, Set: allBytes(b, b)}
		not := set
		not.Not = true
		for c := range 256 {
			s := allBytes(c, c)
			if got := impl.MatchRex(r, s); got != (b == c) || len(impl.MatchTree(r, s, 0)) > 0 != (b == c) {
				t.Errorf("the byte %d fits %d", c, b)
			}
			in, out := impl.MatchAt(row(set, done), s, 0), impl.MatchAt(row(not, done), s, 0)
			if (in == 1) != (b == c) || (out == 1) != (b != c) || in+out != 0 {
				t.Errorf("the byte %d in the set of %d: %d, and not in it: %d", c, b, in, out)
			}
		}
	}
	for b := range 255 {
		// Neither can stand there: a `^` is Not, a `]` the end.
		if b == '^' || b == ']' {
			continue
		}
		in, out := parsed(t, "["+allBytes(b, b)+"-\xff]"), parsed(t, "[^"+allBytes(b, b)+"-\xff]")
		for _, c := range []int{0, b - 1, b, b + 1, 255} {
			s := allBytes(max(c, 0), max(c, 0))
			if impl.MatchRex(in, s) != (max(c, 0) >= b) || impl.MatchRex(out, s) != (max(c, 0) < b) {
				t.Errorf("the byte %d in the set from %d on", c, b)
			}
		}
	}
}

// Lists that are right though no pattern tells them.
func TestMatchOtherLists(t *testing.T) {
	a := takes('a')
	for _, k := range []struct {
		list     []impl.Place
		s        string
		from, to int
		ok       bool
	}{
		{row(done), "", 0, 0, true}, {row(done), "a", 0, 0, true}, {row(jump(2), a, done), "a", 0, 0, true}, {row(fork(1, 0), a, done), "ba", 1, 2, true},
		// Rings from which nothing comes to the end.
		{row(jump(0), done), "a", 0, 0, false}, {row(fork(0, 0), done), "aa", 0, 0, false}, {row(a, jump(0), done), "aaa", 0, 0, false}, {row(takesAny, fork(0, 1), done), "aaa", 0, 0, false},
		{row(jump(1), jump(2), jump(0), done), "", 0, 0, false},
		// The end is come to from behind, and from all sides.
		{row(jump(3), a, jump(4), jump(1), done), "ba", 1, 2, true}, {row(fork(2, 1), jump(3), a, done), "aa", 0, 1, true},
		// Bytes and sets that there are not.
		{row(takes(256), done), "\x00", 0, 0, false}, {row(takes(-1), done), "\xff", 0, 0, false}, {row(takes('a'+256), done), "a", 0, 0, false}, {row(takes(math.MinInt), done), "\x00", 0, 0, false},
		{row(takesIn(""), done), "a", 0, 0, false}, {row(takesOut(""), done), "a", 0, 1, true}, {row(takesIn("ba"), done), "ca", 1, 2, true}, {row(takesIn("aa]"), done), "]", 0, 1, true}, {row(takesOut("ca"), done), "acb", 2, 3, true},
		{row(atEnd, atStart, atEnd, done), "", 0, 0, true}, {row(atEnd, atStart, atEnd, done), "a", 0, 0, false}, {row(atEnd, done), "ab", 2, 2, true},
	} {
		if !impl.NfaOk(k.list) {
			t.Fatalf("%v is not right", k.list)
		}
		if from, to, ok := impl.Match(k.list, k.s); from != k.from || to != k.to || ok != k.ok {
			t.Errorf("Match(%v, %q) = %d, %d, %v; want %d, %d, %v", k.list, k.s, from, to, ok, k.from, k.to, k.ok)
		}
		checkFits(t, k.list, k.s, func(at int) []int { return endsByPlaces(k.list, k.s, at) })
	}
}

// Every short list that is right.
func TestMatchEachList(t *testing.T) {
	places := row(takes('a'), takesAny, takesOut("a"), atStart, atEnd)
	for a := range 4 {
		places = append(places, jump(a))
		for b := range a + 1 {
			places = append(places, fork(a, b))
		}
	}
	for size := range 4 {
		eachList(places, size, func(short []impl.Place) {
			list := append(slices.Clone(short), done)
			if !impl.NfaOk(list) {
				return
			}
			for _, s := range []string{"", "a", "b", "aa", "ab", "baa"} {
				checkFits(t, list, s, func(at int) []int { return endsByPlaces(list, s, at) })
			}
		})
	}
}

// Longer lists, with ways to and fro, where many come to one place.
func TestMatchListsByChance(t *testing.T) {
	chance := rand.New(rand.NewSource(11))
	for range 20000 {
		list := make([]impl.Place, 1+chance.Intn(25))
		for i := range list {
			some := row(takes('a'), takes('b'), takesAny, takesOut("a"), atStart, atEnd, jump(chance.Intn(len(list))), fork(chance.Intn(len(list)), chance.Intn(len(list))), fork(i, chance.Intn(len(list))))
			list[i] = some[chance.Intn(len(some))]
		}
		list[len(list)-1] = done
		s := fewBytes(chance, "aab", 10)
		checkFits(t, list, s, func(at int) []int { return endsByPlaces(list, s, at) })
	}
}

func checkNoFit(t *testing.T, list []impl.Place, s string) {
	t.Helper()
	for _, at := range []int{math.MinInt, -1, 0, 1, len(s), len(s) + 1, math.MaxInt} {
		if got := impl.MatchAt(list, s, at); got != -1 {
			t.Errorf("MatchAt(%.200v, %.80q, %d) = %d; want -1", list, s, at, got)
		}
	}
	if from, to, ok := impl.Match(list, s); from != 0 || to != 0 || ok {
		t.Errorf("Match(%.200v, %.80q) = %d, %d, %v; want 0, 0, false", list, s, from, to, ok)
	}
}

func TestMatchWrongLists(t *testing.T) {
	a := takes('a')
	for _, list := range [][]impl.Place{
		nil, {}, row(a), row(takesAny), row(atStart), row(atEnd), row(jump(0)), row(fork(0, 0)), row(impl.Place{}), row(a, a), row(jump(1), atEnd),
		row(done, a), row(done, done), row(a, done, done), row(done, a, done), row(fork(1, 2), done, done), row(fork(1, 2), done, a),
		row(jump(2), done), row(jump(-1), done), row(fork(0, 2), done), row(fork(2, 1), done), row(fork(1, -1), done), row(fork(1, math.MaxInt), done), row(fork(math.MinInt, 1), done), row(a, jump(400), done),
		row(impl.Place{Op: 9}, done), row(impl.Place{Op: -1}, done), row(impl.Place{Op: math.MaxInt}, done), row(impl.Place{}, done),
		row(impl.Place{Op: impl.NfAny, C: 1}, done), row(impl.Place{Op: impl.NfByte, C: 'a', A: 1}, done), row(impl.Place{Op: impl.NfJump, A: 1, B: 1}, done), row(impl.Place{Op: impl.NfSet, Set: "a", C: 'a'}, done), row(a, impl.Place{Op: impl.NfDone, Not: true}),
		append(slices.Repeat(row(jump(impl.MaxPlaces)), impl.MaxPlaces), done), make([]impl.Place, 100000), slices.Repeat(row(done), impl.MaxPlaces),
	} {
		for _, s := range []string{"", "a", "aa", "\x00", "ba"} {
			checkNoFit(t, list, s)
		}
	}
}

// Places of a text from 0 to its end, and no others.
func TestMatchWrongPlaces(t *testing.T) {
	r := parsed(t, ".*")
	list := impl.NfaOf(r)
	for _, s := range []string{"", "a", "abc", strings.Repeat("a", 1000)} {
		for _, at := range []int{math.MinInt, math.MinInt + 1, -1000, -2, -1, len(s) + 1, len(s) + 2, 5000, math.MaxInt - 1, math.MaxInt} {
			if got := impl.MatchAt(list, s, at); got != -1 {
				t.Errorf("MatchAt(.., %.20q, %d) = %d; want -1", s, at, got)
			}
			if got := impl.MatchTree(r, s, at); len(got) != 0 {
				t.Errorf("MatchTree(.., %.20q, %d) = %v; want nothing", s, at, got)
			}
		}
		if got := impl.MatchAt(list, s, len(s)); got != len(s) || !slices.Equal(impl.MatchTree(r, s, len(s)), []int{len(s)}) {
			t.Errorf("MatchAt(.., %.20q, %d) = %d; want its end", s, len(s), got)
		}
	}
}

func TestMatchWrongRex(t *testing.T) {
	loop := make([]impl.Rex, 1)
	loop[0] = impl.Rex{Op: impl.RxStar, Kids: loop}
	a := chr('a')
	for _, r := range []impl.Rex{
		{}, {Op: 12}, {Op: -1}, {Op: math.MaxInt}, {Op: math.MinInt}, {Kids: []impl.Rex{a, a}}, chr(-1), chr(256), chr('a' + 256), cat(), cat(a), or(), or(a),
		{Op: impl.RxStar}, {Op: impl.RxPlus}, {Op: impl.RxMay}, {Op: impl.RxStar, Kids: []impl.Rex{a, a}}, inSet(""), outOf(""), inSet("ba"), inSet("aa"), outOf("aa"), inSet("]"),
		{Op: impl.RxAny, C: 1}, {Op: impl.RxNone, Set: "a"}, {Op: impl.RxEnd, Not: true}, {Op: impl.RxStart, Kids: []impl.Rex{a}}, {Op: impl.RxSet, Set: "a", C: 'a'}, {Op: impl.RxChar, C: 'a', Set: "a"},
		or(a, impl.Rex{}), or(empty, chr(256)), star(impl.Rex{}), may(inSet("")), loop[0], nestedIn(star, impl.MaxDeep+1), nestedIn(may, 1000),
	} {
		for _, s := range []string{"", "a", "aa"} {
			if impl.MatchRex(r, s) {
				t.Errorf("MatchRex of a Rex that is not right is true at %q", s)
			}
			for at := -1; at <= len(s)+1; at++ {
				if got := impl.MatchTree(r, s, at); len(got) != 0 {
					t.Errorf("MatchTree of a Rex that is not right (%q, %d) = %v", s, at, got)
				}
			}
		}
	}
	for _, wrap := range []func(impl.Rex) impl.Rex{star, plus, may} {
		if r := nestedIn(wrap, impl.MaxDeep); !impl.MatchRex(r, "a") || lastOf(impl.MatchTree(r, "a", 0)) != 1 {
			t.Error("MaxDeep within each other do not fit")
		}
	}
}

// The longest list that is right, and one that is longer by one place: of a Rex
// that has so many the tree still tells the ends.
func TestMatchLimit(t *testing.T) {
	for _, size := range []int{impl.MaxPlaces - 1, impl.MaxPlaces, impl.MaxPlaces + 1, 5000} {
		r := cat(slices.Repeat([]impl.Rex{chr('a')}, size-1)...)
		s := "b" + strings.Repeat("a", size-1)
		right := size <= impl.MaxPlaces
		list := impl.NfaOf(r)
		if !right {
			checkNoFit(t, list, s)
		} else if from, to, ok := impl.Match(list, s); from != 1 || to != size || !ok || impl.MatchAt(list, s, 1) != size {
			t.Errorf("Match of %d places = %d, %d, %v", size, from, to, ok)
		}
		if got := impl.MatchRex(r, s); got != right {
			t.Errorf("MatchRex of %d places is %v", size, got)
		}
		if got := impl.MatchTree(r, s, 1); !slices.Equal(got, []int{size}) {
			t.Errorf("MatchTree of %d places = %v", size, got)
		}
		if got := impl.MatchTree(r, s[:size-1], 1); len(got) != 0 {
			t.Errorf("MatchTree of %d places at too short a text = %v", size, got)
		}
	}
	// All places at once, each by a fork of the one ahead of it.
	list := make([]impl.Place, impl.MaxPlaces)
	for i := range list {
		list[i] = fork((i+1)%len(list), (i+2)%len(list))
	}
	list[impl.MaxPlaces-2], list[impl.MaxPlaces-1] = takesAny, done
	s := strings.Repeat("a", 50)
	checkFits(t, list, s, func(at int) []int { return endsByPlaces(list, s, at) })
}

// Many ways to few ends: each one is gone once.
func TestMatchManyWays(t *testing.T) {
	same := cat(slices.Repeat([]impl.Rex{or(chr('a'), chr('a'), anyOne)}, 40)...)
	short := cat(slices.Repeat([]impl.Rex{may(chr('a'))}, 190)...)
	for _, r := range []impl.Rex{same, short, star(cat(short, plus(short))), parsed(t, "(a*)*(a*)*(a*)*(a|a)*(a?)*(a+)+b"), parsed(t, "(((((a*)*b?)*b?)*b?)*b?)*c")} {
		s := strings.Repeat("a", 100)
		list := impl.NfaOf(r)
		if len(list) > impl.MaxPlaces {
			list = nil
		}
		for at := range len(s) + 1 {
			got := impl.MatchTree(r, s, at)
			if list != nil && (!slices.Equal(got, endsByPlaces(list, s, at)) || lastOf(got) != impl.MatchAt(list, s, at)) {
				t.Errorf("MatchTree(%.100v, .., %d) = %v", r, at, got)
			}
			if !slices.IsSorted(got) || len(slices.Compact(slices.Clone(got))) != len(got) {
				t.Errorf("MatchTree(%.100v, .., %d) does not ascend", r, at)
			}
		}
	}
	if got := impl.MatchTree(star(cat(short, plus(short))), "aab", 0); !slices.Equal(got, []int{0, 1, 2}) {
		t.Errorf("ends = %v", got)
	}
}

// Texts so long that going over them once for each place would not end in time.
func TestMatchLong(t *testing.T) {
	const size = 200000
	many := strings.Repeat("a", size)
	stars := "a" + strings.Repeat("*", impl.MaxDeep-1)
	for _, k := range []struct {
		pattern  string
		s        string
		from, to int
		ok       bool
	}{
		{"a*", many, 0, size, true}, {"a+", many, 0, size, true}, {"a?", many, 0, 1, true}, {".*", many, 0, size, true}, {stars, many, 0, size, true}, {"(a|aa)*", many, 0, size, true}, {"(a?)+", many, 0, size, true},
		{"a*b", many, 0, 0, false}, {"(a*)*b", many, 0, 0, false}, {"(a|aa)+b", many, 0, 0, false}, {"a.*b", many, 0, 0, false}, {"^b", many, 0, 0, false}, {"b", many, 0, 0, false}, {"a^", many, 0, 0, false},
		{"a*b", many + "b", 0, size + 1, true}, {"b", many + "b", size, size + 1, true}, {"b*$", many + "bb", size, size + 2, true}, {"$", many, size, size, true}, {"a$", many, size - 1, size, true}, {"^a*$", many, 0, size, true}, {"[^a]+", many + "bc" + many, size, size + 2, true},
		{"a+b|a", many, 0, 1, true}, {"(a*)b|aa", many, 0, 2, true}, {"b.*a|c", "c" + many, 0, 1, true}, {"c.*b|a", "c" + many, 1, 2, true}, {"c.*b|a+", "c" + many, 1, size + 1, true}, {"a*ba*c|ba", many + "b" + many, size, size + 2, true},
	} {
		r := parsed(t, k.pattern)
		if from, to, ok := impl.Match(impl.NfaOf(r), k.s); from != k.from || to != k.to || ok != k.ok {
			t.Errorf("Match of %q at a long text = %d, %d, %v; want %d, %d, %v", k.pattern, from, to, ok, k.from, k.to, k.ok)
		}
		if got := impl.MatchRex(r, k.s); got != k.ok {
			t.Errorf("MatchRex of %q at a long text is %v", k.pattern, got)
		}
		if got := impl.MatchTree(r, k.s, k.from); k.ok && lastOf(got) != k.to || !k.ok && len(got) > 0 {
			t.Errorf("MatchTree of %q at a long text has %d ends", k.pattern, len(got))
		}
	}
}

// Each end of a long piece is told, from the middle of a text too.
func TestMatchTreeLong(t *testing.T) {
	const size = 100000
	many := strings.Repeat("a", size)
	for _, k := range []struct {
		pattern string
		at      int
		count   int
	}{
		{"a*", 0, size + 1}, {"a+", 0, size}, {"(aa)*", 0, size/2 + 1}, {"(aaa|a*$)+", 1, (size - 1) / 3}, {"(a|aa*b)*", 0, size + 1}, {"((a*)+b?)*", size / 2, size/2 + 1}, {"(ab*)+", 3, size - 3}, {"(a*|b)*c?", size, 1}, {"((aa)*a)?", 0, size/2 + 1},
		{"a" + strings.Repeat("+*?", 3) + "**", 10, size - 9}, {"(.*b|a)*", 0, size + 1},
	} {
		r := parsed(t, k.pattern)
		got := impl.MatchTree(r, many, k.at)
		if len(got) != k.count || !slices.IsSorted(got) || lastOf(got) != impl.MatchAt(impl.NfaOf(r), many, k.at) {
			t.Errorf("MatchTree of %q at a long text has %d ends, the last one %d; want %d", k.pattern, len(got), lastOf(got), k.count)
		}
	}
}

// A piece that ends soon does not cost the whole of a long text.
func TestMatchEachPlaceOfLong(t *testing.T) {
	const size = 200000
	many := strings.Repeat("a", size)
	r := parsed(t, "aa?b|a")
	list := impl.NfaOf(r)
	for at := range size {
		if got := impl.MatchAt(list, many, at); got != at+1 {
			t.Fatalf("MatchAt at %d of a long text = %d", at, got)
		}
		if got := impl.MatchTree(r, many, at); !slices.Equal(got, []int{at + 1}) {
			t.Fatalf("MatchTree at %d of a long text = %v", at, got)
		}
	}
}

func TestMatchWritesNothing(t *testing.T) {
	for _, list := range [][]impl.Place{
		impl.NfaOf(parsed(t, "(a|b*)+[^c]$")), row(done), row(jump(9), done, fork(-1, 0)), nil,
	} {
		places, all := withRoom(list, fork(0, 1))
		before := slices.Clone(all)
		for at := -1; at < 6; at++ {
			impl.MatchAt(places, "aabd", at)
		}
		impl.Match(places, "caabd")
		if !slices.Equal(all, before) {
			t.Errorf("Match writes into %v, or behind it", list)
		}
	}
	for _, last := range []impl.Rex{inSet("ab"), inSet("ba")} {
		kids, all := withRoom([]impl.Rex{star(chr('a')), or(empty, plus(anyOne)), last}, impl.Rex{Op: 77})
		before := slices.Clone(all)
		for _, op := range []int{impl.RxOr, impl.RxCat} {
			impl.MatchRex(impl.Rex{Op: op, Kids: kids}, "aab")
			impl.MatchTree(impl.Rex{Op: op, Kids: kids}, "aab", 0)
		}
		if !slices.EqualFunc(all, before, sameRex) {
			t.Error("MatchRex or MatchTree writes into its argument, or behind it")
		}
	}
}

// Nothing is kept from one call to another.
func TestMatchOwnMemory(t *testing.T) {
	for _, pattern := range []string{"", "a", "a*", "(a|b)+", "a?b?", "(^a|$)*"} {
		r := parsed(t, pattern)
		want := endsBySplits(r, "aab", 0)
		first, second := impl.MatchTree(r, "aab", 0), impl.MatchTree(r, "aab", 0)
		room := first[:cap(first)]
		for i := range room {
			room[i] = -7
		}
		if !slices.Equal(second, want) || !slices.Equal(impl.MatchTree(r, "aab", 0), want) {
			t.Errorf("answers of MatchTree of %q share memory", pattern)
		}
		list := impl.NfaOf(r)
		from, to, ok := impl.Match(list, "baab")
		impl.Match(list, "aaaa")
		impl.MatchAt(list, "aaaa", 1)
		if from2, to2, ok2 := impl.Match(list, "baab"); from2 != from || to2 != to || ok2 != ok {
			t.Errorf("Match of %q answers otherwise when it is asked again", pattern)
		}
	}
}
