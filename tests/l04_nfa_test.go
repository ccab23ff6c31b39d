package tests

import (
	"math"
	"math/rand"
	"slices"
	"strings"
	"testing"

	"loop.example/g00289/impl"
)

// Short ways to tell a Place.
func takes(c int) impl.Place           { return impl.Place{Op: impl.NfByte, C: c} }
func takesIn(set string) impl.Place    { return impl.Place{Op: impl.NfSet, Set: set} }
func takesOut(set string) impl.Place   { return impl.Place{Op: impl.NfSet, Set: set, Not: true} }
func jump(a int) impl.Place            { return impl.Place{Op: impl.NfJump, A: a} }
func fork(a int, b int) impl.Place     { return impl.Place{Op: impl.NfFork, A: a, B: b} }
func row(p ...impl.Place) []impl.Place { return p }

var (
	takesAny = impl.Place{Op: impl.NfAny}
	atStart  = impl.Place{Op: impl.NfStart}
	atEnd    = impl.Place{Op: impl.NfEnd}
	done     = impl.Place{Op: impl.NfDone}
)

func TestPlaceNumbers(t *testing.T) {
	got := []int{impl.NfByte, impl.NfAny, impl.NfSet, impl.NfStart, impl.NfEnd, impl.NfJump, impl.NfFork, impl.NfDone}
	if !slices.Equal(got, []int{1, 2, 3, 4, 5, 6, 7, 8}) {
		t.Errorf("ops are %v", got)
	}
	if impl.MaxPlaces != 400 {
		t.Errorf("the limit is %d", impl.MaxPlaces)
	}
}

// checkPlaces holds the places of a pattern against these, and against those
// of the pattern in brackets.
func checkPlaces(t *testing.T, s string, want []impl.Place) {
	t.Helper()
	r, ok := impl.RexParse(s)
	if !ok {
		t.Fatalf("%q is no pattern", s)
	}
	list := impl.NfaOf(r)
	if !slices.Equal(list, want) {
		t.Errorf("NfaOf of %q = %v; want %v", s, list, want)
	}
	if !impl.NfaOk(list) || len(list) == 0 || list[len(list)-1] != done {
		t.Errorf("NfaOf of %q = %v is not right", s, list)
	}
	if len(s)+2 > impl.MaxRex {
		return
	}
	in, _ := impl.RexParse(bracketed(s))
	if !slices.Equal(impl.NfaOf(in), list) {
		t.Errorf("NfaOf of %q is not that of %q", bracketed(s), s)
	}
}

type placesCase struct {
	s    string
	want []impl.Place
}

func TestNfaOf(t *testing.T) {
	a, b, c := takes('a'), takes('b'), takes('c')
	for _, k := range []placesCase{
		{"a", row(a, done)}, {".", row(takesAny, done)}, {"^", row(atStart, done)}, {"$", row(atEnd, done)},
		{"[ab]", row(takesIn("ab"), done)}, {"[^ab]", row(takesOut("ab"), done)}, {"\\\x00", row(takes(0), done)}, {"\xff", row(takes(255), done)},
		{"[\x00-\xff]", row(takesIn(allBytes(0, 255)), done)},
		{"abc", row(a, b, c, done)}, {"^a.$", row(atStart, a, takesAny, atEnd, done)}, {"(ab)c", row(a, b, c, done)}, {"a(bc)", row(a, b, c, done)},
		// A pattern of nothing is the end alone.
		{"", row(done)}, {"()", row(done)}, {"()()", row(done)}, {"a()", row(a, done)}, {"()a", row(a, done)},
		// One of two, and of more.
		{"a|b", row(fork(1, 3), a, jump(4), b, done)},
		{"a|b|c", row(fork(1, 3), a, jump(7), fork(4, 6), b, jump(7), c, done)},
		{"ab|c", row(fork(1, 4), a, b, jump(5), c, done)}, {"a|bc", row(fork(1, 3), a, jump(5), b, c, done)},
		{"(a|b)|c", row(fork(1, 6), fork(2, 4), a, jump(5), b, jump(7), c, done)},
		{"a|(b|c)", row(fork(1, 3), a, jump(7), fork(4, 6), b, jump(7), c, done)},
		{"(a|b)c", row(fork(1, 3), a, jump(4), b, c, done)}, {"c(a|b)", row(c, fork(2, 4), a, jump(5), b, done)},
		// With parts of nothing.
		{"|", row(fork(1, 2), jump(2), done)}, {"||", row(fork(1, 2), jump(4), fork(3, 4), jump(4), done)},
		{"|a", row(fork(1, 2), jump(3), a, done)}, {"a|", row(fork(1, 3), a, jump(3), done)},
		{"a||b", row(fork(1, 3), a, jump(6), fork(4, 5), jump(6), b, done)}, {"|a|", row(fork(1, 2), jump(5), fork(3, 5), a, jump(5), done)},
		{"(|)c", row(fork(1, 2), jump(2), c, done)}, {"(a|)c", row(fork(1, 3), a, jump(3), c, done)},
		// `*`, `+`, `?`, at the end and ahead of others.
		{"a*", row(fork(1, 3), a, jump(0), done)}, {"a+", row(a, fork(0, 2), done)}, {"a?", row(fork(1, 2), a, done)},
		{"a*b", row(fork(1, 3), a, jump(0), b, done)}, {"a+b", row(a, fork(0, 2), b, done)}, {"a?b", row(fork(1, 2), a, b, done)},
		{"ba*", row(b, fork(2, 4), a, jump(1), done)}, {"ba+", row(b, a, fork(1, 3), done)}, {"ba?", row(b, fork(2, 3), a, done)},
		{"(ab)*", row(fork(1, 4), a, b, jump(0), done)}, {"(ab)+", row(a, b, fork(0, 3), done)}, {"(ab)?", row(fork(1, 3), a, b, done)},
		{"c(ab)+", row(c, a, b, fork(1, 4), done)},
		// Of nothing: rings of forks and jumps.
		{"()*", row(fork(1, 2), jump(0), done)}, {"()+", row(fork(0, 1), done)}, {"()?", row(fork(1, 1), done)}, {"a()+", row(a, fork(1, 2), done)},
		{"^*", row(fork(1, 3), atStart, jump(0), done)}, {"$+", row(atEnd, fork(0, 2), done)},
		// Within each other.
		{"a**", row(fork(1, 5), fork(2, 4), a, jump(1), jump(0), done)}, {"a*+", row(fork(1, 3), a, jump(0), fork(0, 4), done)},
		{"a*?", row(fork(1, 4), fork(2, 4), a, jump(1), done)}, {"a+*", row(fork(1, 4), a, fork(1, 3), jump(0), done)},
		{"a++", row(a, fork(0, 2), fork(0, 3), done)}, {"a+?", row(fork(1, 3), a, fork(1, 3), done)},
		{"a?*", row(fork(1, 4), fork(2, 3), a, jump(0), done)}, {"a?+", row(fork(1, 2), a, fork(0, 3), done)}, {"a??", row(fork(1, 3), fork(2, 3), a, done)},
		{"(a|b)*", row(fork(1, 6), fork(2, 4), a, jump(5), b, jump(0), done)}, {"(a|b)+", row(fork(1, 3), a, jump(4), b, fork(0, 5), done)},
		{"(a|b)?", row(fork(1, 5), fork(2, 4), a, jump(5), b, done)}, {"(|a)*", row(fork(1, 5), fork(2, 3), jump(4), a, jump(0), done)},
		{"a*|b", row(fork(1, 5), fork(2, 4), a, jump(1), jump(6), b, done)}, {"a|b*", row(fork(1, 3), a, jump(6), fork(4, 6), b, jump(3), done)},
		{"a+|b?", row(fork(1, 4), a, fork(1, 3), jump(6), fork(5, 6), b, done)},
		{"(a*b)+c?", row(fork(1, 3), a, jump(0), b, fork(0, 5), fork(6, 7), c, done)},
		{"a(b|c)*[^x-z]$", row(a, fork(2, 7), fork(3, 5), b, jump(6), c, jump(1), takesOut("xyz"), atEnd, done)},
	} {
		checkPlaces(t, k.s, k.want)
	}
}

// placesFrom is what the document says of places once more, built from lists
// whose first place is known and whose length tells what is behind them.
func placesFrom(r impl.Rex, from int) []impl.Place {
	switch r.Op {
	case impl.RxChar:
		return row(takes(r.C))
	case impl.RxSet:
		return row(impl.Place{Op: impl.NfSet, Set: r.Set, Not: r.Not})
	case impl.RxAny:
		return row(takesAny)
	case impl.RxStart:
		return row(atStart)
	case impl.RxEnd:
		return row(atEnd)
	case impl.RxCat:
		var list []impl.Place
		for _, kid := range r.Kids {
			list = append(list, placesFrom(kid, from+len(list))...)
		}
		return list
	case impl.RxOr:
		return placesOfOr(r.Kids, from)
	case impl.RxStar:
		kid := placesFrom(r.Kids[0], from+1)
		return slices.Concat(row(fork(from+1, from+1+len(kid)+1)), kid, row(jump(from)))
	case impl.RxPlus:
		kid := placesFrom(r.Kids[0], from)
		return append(kid, fork(from, from+len(kid)+1))
	case impl.RxMay:
		kid := placesFrom(r.Kids[0], from+1)
		return slices.Concat(row(fork(from+1, from+1+len(kid))), kid)
	}
	return nil
}

// placesOfOr: the first kid against all that are behind it.
func placesOfOr(kids []impl.Rex, from int) []impl.Place {
	if len(kids) == 1 {
		return placesFrom(kids[0], from)
	}
	first := placesFrom(kids[0], from+1)
	behind := from + 1 + len(first) + 1
	rest := placesOfOr(kids[1:], behind)
	return slices.Concat(row(fork(from+1, behind)), first, row(jump(behind+len(rest))), rest)
}

func TestNfaOfEachText(t *testing.T) {
	check := func(s string) {
		if r, ok := impl.RexParse(s); ok {
			checkPlaces(t, s, append(placesFrom(r, 0), done))
		}
	}
	eachText("a|()*+?", 5, check)
	eachText("ab|*?", 6, check)
	eachText("a.^$|[-]\\\x00", 4, check)
}

// The patterns that have the most places for their bytes are right too.
func TestNfaOfLongest(t *testing.T) {
	for _, unit := range []string{"a", "|", "()", "a*", "a+", "a?", "a|", "a*|", "a+?|", "()*|", "a**?", "(|)*", "(a|b)", "(|)*|", "[a-c]"} {
		s := strings.Repeat(unit, impl.MaxRex/len(unit))
		r, ok := impl.RexParse(s)
		if !ok {
			t.Fatalf("%q is no pattern", s)
		}
		checkPlaces(t, s, append(placesFrom(r, 0), done))
	}
	marks := strings.Repeat("*", impl.MaxDeep-1)
	checkPlaces(t, "a"+marks, append(placesFrom(nestedIn(star, impl.MaxDeep), 0), done))
	list := impl.NfaOf(nestedIn(star, impl.MaxDeep))
	if len(list) != 2*impl.MaxDeep || list[0] != fork(1, len(list)-1) || list[len(list)-2] != jump(0) {
		t.Errorf("NfaOf of the deepest pattern = %v", list)
	}
}

func nestedIn(wrap func(impl.Rex) impl.Rex, deep int) impl.Rex {
	r := chr('a')
	for range deep - 1 {
		r = wrap(r)
	}
	return r
}

func TestNfaOfByChance(t *testing.T) {
	chance := rand.New(rand.NewSource(5))
	long := 0
	for range 20000 {
		r := rexByChance(chance, 1+chance.Intn(impl.MaxDeep))
		want := append(placesFrom(r, 0), done)
		list := impl.NfaOf(r)
		if !slices.Equal(list, want) {
			t.Fatalf("NfaOf(%v) = %v; want %v", r, list, want)
		}
		if got := impl.NfaOk(list); got != (len(want) <= impl.MaxPlaces) {
			t.Fatalf("NfaOk of %d places of %v is %v", len(list), r, got)
		}
		if len(want) > 60 {
			long++
		}
	}
	if long < 100 {
		t.Errorf("only %d lists were long", long)
	}
}

// A Rex may be longer than any text of a pattern: it has its places, but
// those are right up to the limit alone.
func TestNfaOfLimit(t *testing.T) {
	bytesInRow := func(n int) impl.Rex { return cat(slices.Repeat([]impl.Rex{chr('a')}, n)...) }
	nothings := func(n int) impl.Rex { return or(slices.Repeat([]impl.Rex{empty}, n)...) }
	for _, k := range []struct {
		r    impl.Rex
		size int
	}{
		{bytesInRow(impl.MaxPlaces - 2), impl.MaxPlaces - 1}, {bytesInRow(impl.MaxPlaces - 1), impl.MaxPlaces}, {bytesInRow(impl.MaxPlaces), impl.MaxPlaces + 1},
		{nothings(200), 399}, {may(nothings(200)), 400}, {plus(nothings(200)), 400}, {star(nothings(200)), 401}, {nothings(201), 401},
		{star(bytesInRow(397)), 400}, {star(bytesInRow(398)), 401}, {bytesInRow(5000), 5001}, {nothings(5000), 9999},
	} {
		list := impl.NfaOf(k.r)
		if len(list) != k.size || !slices.Equal(list, append(placesFrom(k.r, 0), done)) {
			t.Errorf("NfaOf of what has %d places has %d", k.size, len(list))
		}
		if got := impl.NfaOk(list); got != (k.size <= impl.MaxPlaces) {
			t.Errorf("NfaOk of %d places is %v", k.size, got)
		}
	}
}

func TestNfaOfWrong(t *testing.T) {
	loop := make([]impl.Rex, 1)
	loop[0] = impl.Rex{Op: impl.RxStar, Kids: loop}
	a := chr('a')
	for _, r := range []impl.Rex{
		{}, {Op: 12}, {Op: -1}, {Op: math.MaxInt}, {Op: math.MinInt}, {Kids: []impl.Rex{a, a}},
		chr(-1), chr(256), chr(math.MinInt), cat(), cat(a), or(), or(a), {Op: impl.RxStar}, {Op: impl.RxPlus}, {Op: impl.RxMay},
		{Op: impl.RxPlus, Kids: []impl.Rex{a, a}}, inSet(""), inSet("ba"), inSet("aa"), inSet("]"), outOf(""),
		{Op: impl.RxAny, C: 1}, {Op: impl.RxNone, Set: "a"}, {Op: impl.RxEnd, Not: true}, {Op: impl.RxNone, Kids: []impl.Rex{a}}, {Op: impl.RxSet, Set: "a", C: 'a'},
		cat(a, chr(256)), or(a, a, impl.Rex{}), star(cat(a, or(a, impl.Rex{Op: 12}))), loop[0], nestedIn(star, impl.MaxDeep+1), nestedIn(may, 1000),
	} {
		if list := impl.NfaOf(r); len(list) != 0 {
			t.Errorf("NfaOf of a Rex that is not right = %v", list)
		}
	}
	if list := impl.NfaOf(nestedIn(plus, impl.MaxDeep)); len(list) != impl.MaxDeep+1 {
		t.Errorf("NfaOf of MaxDeep within each other = %v", list)
	}
}

func TestNfaOkRight(t *testing.T) {
	a := takes('a')
	for _, list := range [][]impl.Place{
		row(done), row(a, done), row(takes(0), takes(255), takesAny, takesIn("ab"), takesOut("ab"), atStart, atEnd, done),
		row(takesIn("a"), done), row(takesOut("a"), takesIn("]"), done),
		// Jumps and forks to the beginning, to themselves and to the end.
		row(jump(0), done), row(jump(1), done), row(fork(0, 0), done), row(fork(1, 1), done), row(fork(0, 1), done), row(fork(1, 0), done),
		row(a, jump(2), fork(0, 3), done), row(a, jump(0), fork(3, 1), done), row(jump(2), jump(0), jump(1), done),
		// What no pattern tells, but the chapter does not bar.
		row(jump(2), a, done), row(atEnd, atStart, atEnd, done),
	} {
		if !impl.NfaOk(list) {
			t.Errorf("NfaOk(%v) is false", list)
		}
	}
}

func TestNfaOkWrong(t *testing.T) {
	a := takes('a')
	for _, list := range [][]impl.Place{
		nil, {},
		// Without the end, or with more than one.
		row(a), row(a, a), row(jump(0)), row(fork(0, 0)), row(takesAny), row(atStart, atEnd), row(done, a), row(done, a, a), row(a, done, a),
		row(done, done), row(a, done, done), row(done, a, done), row(a, done, a, done),
		// Ops that there are not.
		row(impl.Place{}), row(impl.Place{}, done), row(a, impl.Place{}, done), row(a, impl.Place{}), row(impl.Place{Op: 9}, done), row(impl.Place{Op: -1}, done),
		row(impl.Place{Op: math.MaxInt}, done), row(impl.Place{Op: math.MinInt}, done), row(a, impl.Place{Op: 9}), row(a, impl.Place{Op: -8}), row(impl.Place{C: 'a'}, done),
		// Ways to what is no place.
		row(jump(2), done), row(jump(-1), done), row(a, jump(3), done), row(jump(math.MaxInt), done), row(jump(math.MinInt), done),
		row(fork(2, 0), done), row(fork(0, 2), done), row(fork(-1, 0), done), row(fork(0, -1), done), row(fork(1, 2), done), row(fork(2, 1), done),
		row(fork(2, 2), done), row(fork(-1, -1), done), row(fork(0, math.MaxInt), done), row(fork(math.MinInt, 1), done), row(a, a, fork(0, 4), done), row(fork(4, 0), a, a, done),
		row(jump(impl.MaxPlaces), done), row(jump(impl.MaxPlaces-1), done),
	} {
		if impl.NfaOk(list) {
			t.Errorf("NfaOk(%v) is true", list)
		}
	}
}

// Things that are not named and not zero, at each op, wherever it stands.
func TestNfaOkUnnamed(t *testing.T) {
	named := map[int]string{impl.NfByte: "C", impl.NfSet: "SN", impl.NfJump: "A", impl.NfFork: "AB"}
	for _, p := range []impl.Place{takes('a'), takesAny, takesIn("a"), atStart, atEnd, jump(0), fork(0, 0), done} {
		for _, thing := range "CSNAB" {
			x := p
			switch thing {
			case 'C':
				x.C = 1
			case 'S':
				x.Set = "b"
			case 'N':
				x.Not = true
			case 'A':
				x.A = 1
			case 'B':
				x.B = 1
			}
			want := strings.ContainsRune(named[p.Op], thing)
			lists := [][]impl.Place{row(x, done), row(takesAny, x, done), row(x, takesAny, done)}
			if p.Op == impl.NfDone {
				lists = [][]impl.Place{row(takesAny, x), row(takesAny, takesAny, x)}
			}
			for _, list := range lists {
				if got := impl.NfaOk(list); got != want {
					t.Errorf("NfaOk(%+v) = %v; want %v", list, got, want)
				}
			}
		}
	}
}

func TestNfaOkLimit(t *testing.T) {
	for _, p := range []impl.Place{takes('a'), takesAny, jump(0), fork(0, 1)} {
		for size := impl.MaxPlaces - 1; size <= impl.MaxPlaces+2; size++ {
			list := append(slices.Repeat(row(p), size-1), done)
			if got := impl.NfaOk(list); got != (size <= impl.MaxPlaces) {
				t.Errorf("NfaOk of %d places is %v", size, got)
			}
		}
	}
	// Ways to the last place of the longest list, and to one behind it.
	for _, p := range []impl.Place{jump(impl.MaxPlaces - 1), fork(0, impl.MaxPlaces-1), fork(impl.MaxPlaces-1, 0), jump(impl.MaxPlaces), fork(0, impl.MaxPlaces), fork(impl.MaxPlaces, 0)} {
		list := append(slices.Repeat(row(takesAny), impl.MaxPlaces-1), done)
		for _, at := range []int{0, 200, impl.MaxPlaces - 2} {
			x := slices.Clone(list)
			x[at] = p
			if got := impl.NfaOk(x); got != (max(p.A, p.B) < impl.MaxPlaces) {
				t.Errorf("NfaOk with %v at %d is %v", p, at, got)
			}
		}
	}
	if impl.NfaOk(make([]impl.Place, 1000000)) || impl.NfaOk(slices.Repeat(row(done), impl.MaxPlaces)) {
		t.Error("NfaOk of lists that are not right is true")
	}
}

// eachList calls f with every list of just so many of these places.
func eachList(places []impl.Place, size int, f func([]impl.Place)) {
	list := make([]impl.Place, size)
	var fill func(i int)
	fill = func(i int) {
		if i == size {
			f(list)
			return
		}
		for _, p := range places {
			list[i] = p
			fill(i + 1)
		}
	}
	fill(0)
}

func TestNfaOkEachList(t *testing.T) {
	places := row(takes('a'), takesAny, takesIn("a"), takesOut("b"), atStart, atEnd, done, impl.Place{}, impl.Place{Op: 9}, impl.Place{Op: impl.NfAny, C: 1}, impl.Place{Op: impl.NfDone, A: 1}, impl.Place{Op: impl.NfJump, A: 1, B: 1})
	for a := -1; a <= 3; a++ {
		places = append(places, jump(a))
		for b := -1; b <= 3; b++ {
			places = append(places, fork(a, b))
		}
	}
	right := map[int]int{}
	for size := range 4 {
		eachList(places, size, func(list []impl.Place) {
			want := size > 0 && list[size-1] == done
			for i, p := range list {
				within := min(p.A, p.B) >= 0 && max(p.A, p.B) < size
				plain := slices.Contains(places[:6], p)
				way := within && (p == jump(p.A) || p == fork(p.A, p.B))
				want = want && (plain || way || i == size-1)
			}
			if want {
				right[size]++
			}
			if got := impl.NfaOk(list); got != want {
				t.Fatalf("NfaOk(%+v) = %v; want %v", list, got, want)
			}
		})
	}
	if right[0] != 0 || right[1] != 1 || right[2] != 12 || right[3] != 18*18 {
		t.Errorf("right are %v", right)
	}
}

// reachedFrom is the closure by going over the list until nothing comes to it.
func reachedFrom(list []impl.Place, at []int, begin bool, end bool) []int {
	in := map[int]int{}
	for i := range list {
		if slices.Contains(at, i) {
			in[i] = 1
		}
	}
	for before := -1; before != len(in); {
		before = len(in)
		for i, p := range list {
			if in[i] == 0 {
				continue
			}
			var to []int
			switch p.Op {
			case impl.NfStart:
				if begin {
					to = []int{i + 1}
				}
			case impl.NfEnd:
				if end {
					to = []int{i + 1}
				}
			case impl.NfJump:
				to = []int{p.A}
			case impl.NfFork:
				to = []int{p.A, p.B}
			}
			for _, n := range to {
				if n >= 0 && n < len(list) {
					in[n] = 1
				}
			}
		}
	}
	var sorted []int
	for i := range list {
		if in[i] > 0 {
			sorted = append(sorted, i)
		}
	}
	return sorted
}

var bothWays = []bool{false, true}

// checkClosure holds it against the second way, and asks whether what is
// reached is reached again.
func checkClosure(t *testing.T, list []impl.Place, at []int) {
	t.Helper()
	for _, begin := range bothWays {
		for _, end := range bothWays {
			got := impl.Closure(list, at, begin, end)
			if want := reachedFrom(list, at, begin, end); !slices.Equal(got, want) {
				t.Fatalf("Closure(%v, %v, %v, %v) = %v; want %v", list, at, begin, end, got, want)
			}
			if again := impl.Closure(list, got, begin, end); !slices.Equal(again, got) {
				t.Fatalf("Closure(%v, %v, %v, %v) = %v, and again %v", list, at, begin, end, got, again)
			}
		}
	}
}

func TestClosure(t *testing.T) {
	a := takes('a')
	type closureCase struct {
		list       []impl.Place
		at         []int
		begin, end bool
		want       []int
	}
	edges := row(atStart, atEnd, done)
	ring := row(jump(2), a, jump(3), fork(0, 4), a, done)
	for _, k := range []closureCase{
		{row(a, done), []int{0}, true, true, []int{0}}, {row(a, done), []int{1}, true, true, []int{1}}, {row(a, done), []int{0, 1}, false, false, []int{0, 1}},
		{row(takesAny, takesIn("a"), takesOut("a"), done), []int{0, 1, 2}, true, true, []int{0, 1, 2}}, {row(done), []int{0}, false, false, []int{0}},
		// Jumps and forks, ahead and back, and to the end.
		{row(jump(2), a, done), []int{0}, false, false, []int{0, 2}}, {row(a, jump(0), done), []int{1}, false, false, []int{0, 1}},
		{row(fork(1, 2), a, done), []int{0}, false, false, []int{0, 1, 2}}, {row(fork(2, 1), a, done), []int{0}, false, false, []int{0, 1, 2}},
		{row(a, a, fork(0, 3), done), []int{2}, false, false, []int{0, 2, 3}}, {row(fork(2, 2), a, done), []int{0}, false, false, []int{0, 2}},
		// Where the text begins, and where it ends.
		{edges, []int{0}, false, false, []int{0}}, {edges, []int{0}, true, false, []int{0, 1}}, {edges, []int{0}, false, true, []int{0}}, {edges, []int{0}, true, true, []int{0, 1, 2}},
		{edges, []int{1}, false, false, []int{1}}, {edges, []int{1}, true, false, []int{1}}, {edges, []int{1}, false, true, []int{1, 2}}, {edges, []int{1}, true, true, []int{1, 2}},
		{edges, []int{0, 1}, false, true, []int{0, 1, 2}},
		// Rings.
		{row(jump(0), done), []int{0}, false, false, []int{0}}, {row(fork(0, 0), done), []int{0}, false, false, []int{0}}, {row(fork(0, 1), done), []int{0}, false, false, []int{0, 1}},
		{row(jump(1), jump(2), jump(0), done), []int{1}, false, false, []int{0, 1, 2}}, {ring, []int{3}, false, false, []int{0, 2, 3, 4}}, {ring, []int{0}, false, false, []int{0, 2, 3, 4}},
		{row(atStart, jump(0), done), []int{0}, true, false, []int{0, 1}}, {row(atEnd, fork(0, 2), done), []int{1}, false, true, []int{0, 1, 2}},
		// Told twice, in no order, places that there are not, and none.
		{ring, []int{5, 1, 5, 1, 1}, false, false, []int{1, 5}}, {ring, []int{4, 1}, false, false, []int{1, 4}}, {ring, []int{5, 3, 0, 3}, false, false, []int{0, 2, 3, 4, 5}},
		{ring, []int{6, -1, math.MaxInt, math.MinInt}, true, true, nil}, {ring, []int{-1, 5, 6}, true, true, []int{5}}, {ring, nil, true, true, nil}, {ring, []int{}, true, true, nil},
		{nil, nil, true, true, nil}, {nil, []int{0, -1, 1}, true, true, nil}, {row(), []int{0}, true, true, nil},
	} {
		if got := impl.Closure(k.list, k.at, k.begin, k.end); !slices.Equal(got, k.want) {
			t.Errorf("Closure(%v, %v, %v, %v) = %v; want %v", k.list, k.at, k.begin, k.end, got, k.want)
		}
		checkClosure(t, k.list, k.at)
	}
}

// Lists that are not right: what is no place is not reached, and what is no
// op leads nowhere.
func TestClosureWrongLists(t *testing.T) {
	a := takes('a')
	for _, k := range []struct {
		list []impl.Place
		want []int
	}{
		{row(a), []int{0}}, {row(atStart), []int{0}}, {row(atEnd), []int{0}}, {row(jump(0)), []int{0}}, {row(jump(1)), []int{0}}, {row(fork(1, 0)), []int{0}}, {row(fork(1, 2)), []int{0}},
		{row(jump(2), a), []int{0}}, {row(jump(-1), a), []int{0}}, {row(jump(math.MaxInt), done), []int{0}}, {row(jump(math.MinInt), done), []int{0}},
		{row(fork(-1, 1), done), []int{0, 1}}, {row(fork(1, -1), done), []int{0, 1}}, {row(fork(2, 1), done), []int{0, 1}}, {row(fork(1, 2), done), []int{0, 1}},
		{row(fork(math.MaxInt, math.MinInt), done), []int{0}}, {row(impl.Place{}, done), []int{0}}, {row(impl.Place{Op: 9, A: 1}, done), []int{0}}, {row(impl.Place{Op: -6, A: 1, B: 1}, done), []int{0}},
		{row(impl.Place{A: 1, B: 1}, a), []int{0}}, {row(done, done), []int{0}}, {row(done, a), []int{0}}, {row(jump(1), done, done), []int{0, 1}}, {row(fork(1, 2), done, atStart), []int{0, 1, 2}},
		// What is not named leads nowhere.
		{row(impl.Place{Op: impl.NfByte, C: 'a', A: 1, B: 1}, done), []int{0}}, {row(impl.Place{Op: impl.NfDone, A: 1, B: 1}, done), []int{0}},
		{row(impl.Place{Op: impl.NfJump, A: 1, B: 2}, a, done), []int{0, 1}}, {row(impl.Place{Op: impl.NfStart, A: 2, B: 2}, a, done), []int{0, 1}},
		{row(impl.Place{Op: impl.NfEnd, A: 2, B: 2}, a, done), []int{0, 1}}, {row(impl.Place{Op: impl.NfFork, A: 1, B: 1, C: 2, Set: "x", Not: true}, a, done), []int{0, 1}},
	} {
		if got := impl.Closure(k.list, []int{0}, true, true); !slices.Equal(got, k.want) {
			t.Errorf("Closure(%+v, [0], true, true) = %v; want %v", k.list, got, k.want)
		}
	}
}

// Lists longer than the limit, in one long way, without an end of time or depth.
func TestClosureLong(t *testing.T) {
	const size = 300000
	ahead, back := make([]impl.Place, size), make([]impl.Place, size)
	starts := make([]impl.Place, size)
	for i := range size {
		ahead[i], back[i], starts[i] = jump((i+1)%size), fork((i+size-1)%size, i), atStart
	}
	all := make([]int, size)
	for i := range all {
		all[i] = i
	}
	many := slices.Repeat([]int{size - 1, -1, 3}, 1000)
	for _, list := range [][]impl.Place{ahead, back} {
		for _, at := range [][]int{{0}, {size / 2}, many, all} {
			if got := impl.Closure(list, at, false, false); !slices.Equal(got, all) {
				t.Errorf("Closure of a ring of %d has %d places", size, len(got))
			}
		}
	}
	if got := impl.Closure(starts, []int{7}, true, false); !slices.Equal(got, all[7:]) {
		t.Errorf("Closure of a row of NfStart has %d places", len(got))
	}
	if got := impl.Closure(starts, many, false, true); !slices.Equal(got, []int{3, size - 1}) {
		t.Errorf("Closure of a row of NfStart that is not at the beginning = %v", got)
	}
}

func TestClosureEachList(t *testing.T) {
	places := row(takes('a'), atStart, atEnd, done, impl.Place{Op: 9, A: 1, B: 1})
	for a := -1; a <= 3; a++ {
		places = append(places, jump(a))
		for b := -1; b <= 3; b++ {
			places = append(places, fork(a, b))
		}
	}
	for size := range 4 {
		eachList(places, size, func(list []impl.Place) {
			for choice := range 1 << size {
				at := []int{}
				for i := range size {
					if choice>>i&1 == 1 {
						at = append(at, i)
					}
				}
				for _, begin := range bothWays {
					got := impl.Closure(list, at, begin, !begin)
					if want := reachedFrom(list, at, begin, !begin); !slices.Equal(got, want) {
						t.Fatalf("Closure(%v, %v, %v, %v) = %v; want %v", list, at, begin, !begin, got, want)
					}
				}
			}
		})
	}
}

func TestClosureOfPatterns(t *testing.T) {
	chance := rand.New(rand.NewSource(6))
	for range 3000 {
		list := impl.NfaOf(rexByChance(chance, 1+chance.Intn(6)))
		checkClosure(t, list, []int{0})
		at := make([]int, chance.Intn(5))
		for i := range at {
			at[i] = chance.Intn(len(list)+4) - 2
		}
		checkClosure(t, list, at)
	}
}

func TestClosureByChance(t *testing.T) {
	chance := rand.New(rand.NewSource(7))
	for range 3000 {
		list := make([]impl.Place, chance.Intn(12))
		for i := range list {
			list[i] = impl.Place{Op: chance.Intn(11) - 1, A: chance.Intn(len(list)+4) - 2, B: chance.Intn(len(list)+4) - 2}
		}
		at := make([]int, chance.Intn(5))
		for i := range at {
			at[i] = chance.Intn(len(list)+4) - 2
		}
		checkClosure(t, list, at)
	}
}

// withRoom is a list with spare room behind it that holds something.
func withRoom[T any](list []T, filler T) (cut []T, whole []T) {
	whole = append(slices.Clone(list), slices.Repeat([]T{filler}, 2*len(list)+8)...)
	return whole[:len(list)], whole
}

func TestPlacesWriteNothing(t *testing.T) {
	for _, list := range [][]impl.Place{
		row(fork(1, 5), fork(2, 4), takes('a'), jump(1), jump(6), takes('b'), done),
		row(atStart, atEnd, done), row(jump(9), done, fork(-1, 0)), nil,
	} {
		for _, at := range [][]int{{0}, {1, 0, 1, 9, -1}, {2, 2, 2, 0}, nil} {
			places, allPlaces := withRoom(list, fork(0, 1))
			numbers, allNumbers := withRoom(at, 0)
			before, beforeAt := slices.Clone(allPlaces), slices.Clone(allNumbers)
			impl.NfaOk(places)
			got := impl.Closure(places, numbers, true, true)
			if !slices.Equal(allPlaces, before) || !slices.Equal(allNumbers, beforeAt) {
				t.Errorf("Closure(%v, %v) writes into its arguments, or behind them", list, at)
			}
			// What is written into the answer is not seen in the argument.
			for i := range got[:cap(got)] {
				got[:cap(got)][i] = -7
			}
			if !slices.Equal(allNumbers, beforeAt) {
				t.Errorf("the answer of Closure(%v, %v) shares memory with it", list, at)
			}
		}
	}
}

func TestNfaOfWritesNothing(t *testing.T) {
	for _, last := range []impl.Rex{inSet("ab"), inSet("ba")} {
		kids, all := withRoom([]impl.Rex{star(chr('a')), or(empty, plus(anyOne)), last}, impl.Rex{Op: 77})
		before := slices.Clone(all)
		impl.NfaOf(impl.Rex{Op: impl.RxOr, Kids: kids})
		if !slices.EqualFunc(all, before, sameRex) {
			t.Error("NfaOf writes into its argument, or behind it")
		}
	}
}

// Nothing is kept from one call to another.
func TestPlacesOwnMemory(t *testing.T) {
	r, _ := impl.RexParse("(ab|c*)+[a-c]|d?")
	want := append(placesFrom(r, 0), done)
	first, second := impl.NfaOf(r), impl.NfaOf(r)
	for i := range first[:cap(first)] {
		first[:cap(first)][i] = impl.Place{Op: -7}
	}
	if !slices.Equal(second, want) || !slices.Equal(impl.NfaOf(r), want) {
		t.Error("answers of NfaOf share memory")
	}
	reached, again := impl.Closure(second, []int{0}, true, true), impl.Closure(second, []int{0}, true, true)
	copied := slices.Clone(reached)
	for i := range reached[:cap(reached)] {
		reached[:cap(reached)][i] = -7
	}
	if !slices.Equal(again, copied) || !slices.Equal(impl.Closure(second, []int{0}, true, true), copied) {
		t.Error("answers of Closure share memory")
	}
}
