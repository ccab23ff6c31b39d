package tests

import (
	"math"
	"math/rand"
	"reflect"
	"slices"
	"strings"
	"testing"

	"loop.example/g00289/impl"
)

// Short ways to tell a Rex.
var (
	anyOne = impl.Rex{Op: impl.RxAny}
	begins = impl.Rex{Op: impl.RxStart}
	ends   = impl.Rex{Op: impl.RxEnd}
	empty  = impl.Rex{Op: impl.RxNone}
)

func chr(c int) impl.Rex                  { return impl.Rex{Op: impl.RxChar, C: c} }
func inSet(set string) impl.Rex           { return impl.Rex{Op: impl.RxSet, Set: set} }
func outOf(set string) impl.Rex           { return impl.Rex{Op: impl.RxSet, Set: set, Not: true} }
func cat(kids ...impl.Rex) impl.Rex       { return impl.Rex{Op: impl.RxCat, Kids: kids} }
func or(kids ...impl.Rex) impl.Rex        { return impl.Rex{Op: impl.RxOr, Kids: kids} }
func star(kid impl.Rex) impl.Rex          { return impl.Rex{Op: impl.RxStar, Kids: []impl.Rex{kid}} }
func plus(kid impl.Rex) impl.Rex          { return impl.Rex{Op: impl.RxPlus, Kids: []impl.Rex{kid}} }
func may(kid impl.Rex) impl.Rex           { return impl.Rex{Op: impl.RxMay, Kids: []impl.Rex{kid}} }
func bracketed(s string) string           { return "(" + s + ")" }
func sameRex(a impl.Rex, b impl.Rex) bool { return reflect.DeepEqual(plainRex(a), plainRex(b)) }

// plainRex is r with nil for each empty list, as both are the same value.
func plainRex(r impl.Rex) impl.Rex {
	kids := r.Kids
	r.Kids = nil
	for _, kid := range kids {
		r.Kids = append(r.Kids, plainRex(kid))
	}
	return r
}

func allBytes(low int, high int) string {
	var list []byte
	for b := low; b <= high; b++ {
		list = append(list, byte(b))
	}
	return string(list)
}

func checkRex(t *testing.T, s string, want impl.Rex) {
	t.Helper()
	r, ok := impl.RexParse(s)
	if !ok || !sameRex(r, want) {
		t.Errorf("RexParse(%q) = %v, %v; want %v, true", s, r, ok, want)
		return
	}
	if !impl.RexOk(r) {
		t.Errorf("RexOk of RexParse(%q) is false", s)
	}
	if len(s)+2 > impl.MaxRex {
		return
	}
	if in, ok := impl.RexParse(bracketed(s)); !ok || !sameRex(in, want) {
		t.Errorf("RexParse(%q) = %v, %v; want what it is without brackets, %v", bracketed(s), in, ok, want)
	}
}

func checkNoRex(t *testing.T, s string) {
	t.Helper()
	if r, ok := impl.RexParse(s); ok || !reflect.DeepEqual(r, impl.Rex{}) {
		t.Errorf("RexParse(%.80q) = %v, %v; want zero and false", s, r, ok)
	}
}

type rexCase struct {
	s    string
	want impl.Rex
}

func TestRexNumbers(t *testing.T) {
	got := []int{
		impl.RxChar, impl.RxAny, impl.RxSet, impl.RxStart, impl.RxEnd, impl.RxCat,
		impl.RxOr, impl.RxStar, impl.RxPlus, impl.RxMay, impl.RxNone,
	}
	if !slices.Equal(got, []int{1, 2, 3, 4, 5, 6, 7, 8, 9, 10, 11}) {
		t.Errorf("ops are %v", got)
	}
	if impl.MaxRex != 60 || impl.MaxDeep != 12 {
		t.Errorf("limits are %d, %d", impl.MaxRex, impl.MaxDeep)
	}
}

func TestRexParse(t *testing.T) {
	a, b, c := chr('a'), chr('b'), chr('c')
	for _, k := range []rexCase{
		{"a", a}, {".", anyOne}, {"^", begins}, {"$", ends},
		{"ab", cat(a, b)}, {"abc", cat(a, b, c)}, {"^a.$", cat(begins, a, anyOne, ends)}, {"a^$b", cat(a, begins, ends, b)},
		{"a|b", or(a, b)}, {"a|b|c", or(a, b, c)}, {"ab|c", or(cat(a, b), c)}, {"a|bc", or(a, cat(b, c))},
		{"a*", star(a)}, {"a+", plus(a)}, {"a?", may(a)}, {".*", star(anyOne)}, {"^*", star(begins)}, {"$+?", may(plus(ends))},
		// What binds first.
		{"ab*", cat(a, star(b))}, {"a*b", cat(star(a), b)}, {"a|b*", or(a, star(b))}, {"ab+|c?", or(cat(a, plus(b)), may(c))},
		{"(ab)*", star(cat(a, b))}, {"(a|b)*", star(or(a, b))}, {"a(b|c)", cat(a, or(b, c))}, {"(a|b)c", cat(or(a, b), c)},
		// Many behind one atom, from the inside out.
		{"a*+?", may(plus(star(a)))}, {"a?+*", star(plus(may(a)))}, {"a**", star(star(a))}, {"a??", may(may(a))}, {"a++b", cat(plus(plus(a)), b)},
		{"(a*)*", star(star(a))}, {"((a+)?)*", star(may(plus(a)))},
		// Brackets stay where they part what would else be one.
		{"(ab)c", cat(cat(a, b), c)}, {"a(bc)", cat(a, cat(b, c))}, {"(a|b)|c", or(or(a, b), c)}, {"a|(b|c)", or(a, or(b, c))},
		{"((a))", a}, {"(((a)b)c)", cat(cat(a, b), c)}, {"(a)(b)", cat(a, b)}, {"(a)|(b)", or(a, b)},
		// Nothing: no pieces, and parts of nothing ahead, between and behind.
		{"", empty}, {"()", empty}, {"(())", empty}, {"|", or(empty, empty)}, {"||", or(empty, empty, empty)},
		{"|a", or(empty, a)}, {"a|", or(a, empty)}, {"a||b", or(a, empty, b)}, {"|a|", or(empty, a, empty)},
		{"(|)", or(empty, empty)}, {"a(|b)", cat(a, or(empty, b))}, {"()*", star(empty)}, {"a()", cat(a, empty)}, {"()()", cat(empty, empty)},
		{"()|a", or(empty, a)}, {"(|)*|", or(star(or(empty, empty)), empty)}, {"(a|)b", cat(or(a, empty), b)},
		// The pattern of the given test.
		{"a(b|c)*[^x-z]$", cat(a, star(or(b, c)), outOf("xyz"), ends)},
		// Bytes that are none of the signs.
		{"]", chr(']')}, {"]*", star(chr(']'))}, {"-", chr('-')}, {"{1,2}", cat(chr('{'), chr('1'), chr(','), chr('2'), chr('}'))},
		{"/", chr('/')}, {" ", chr(' ')}, {"\n", chr('\n')}, {"\t\r", cat(chr('\t'), chr('\r'))}, {"<>", cat(chr('<'), chr('>'))},
		{"\u00e9", cat(chr(0xc3), chr(0xa9))}, {"\u00e9*", cat(chr(0xc3), star(chr(0xa9)))},
	} {
		checkRex(t, k.s, k.want)
	}
}

func TestRexSets(t *testing.T) {
	for _, k := range []rexCase{
		{"[a]", inSet("a")}, {"[ba]", inSet("ab")}, {"[cab]", inSet("abc")}, {"[aa]", inSet("a")}, {"[abab]", inSet("ab")},
		{"[a-c]", inSet("abc")}, {"[a-a]", inSet("a")}, {"[a-b]", inSet("ab")}, {"[x-za-c]", inSet("abcxyz")},
		{"[a-db-f]", inSet("abcdef")}, {"[b-fa-d]", inSet("abcdef")}, {"[a-cb]", inSet("abc")}, {"[ba-c]", inSet("abc")},
		{"[a-ca-c]", inSet("abc")}, {"[a-cx]", inSet("abcx")}, {"[xa-c]", inSet("abcx")}, {"[0-9_a-c]", inSet("0123456789_abc")},
		// `^` at the front, there twice, and elsewhere.
		{"[^a]", outOf("a")}, {"[^cba]", outOf("abc")}, {"[^a-c]", outOf("abc")}, {"[^^]", outOf("^")}, {"[^^a]", outOf("^a")},
		{"[a^]", inSet("^a")}, {"[a^b]", inSet("^ab")}, {"[\\^]", inSet("\\^")}, {"[a-c^]", inSet("^abc")}, {"[^a^]", outOf("^a")},
		{"[^^-a]", outOf("^_`a")}, {"[Z-^]", inSet("Z[\\]^")},
		// `-` first, last, between, and as an end of a row.
		{"[-]", inSet("-")}, {"[-a]", inSet("-a")}, {"[a-]", inSet("-a")}, {"[^-]", outOf("-")}, {"[^-a]", outOf("-a")}, {"[^a-]", outOf("-a")},
		{"[--]", inSet("-")}, {"[---]", inSet("-")}, {"[----]", inSet("-")}, {"[-----]", inSet("-")}, {"[------]", inSet("-")},
		{"[--0]", inSet("-./0")}, {"[+--]", inSet("+,-")}, {"[--/a]", inSet("-./a")}, {"[^--/]", outOf("-./")},
		{"[a-c-e]", inSet("-abce")}, {"[a-c-]", inSet("-abc")}, {"[a-c-e-g]", inSet("-abcefg")}, {"[a-c--]", inSet("-abc")},
		{"[-a-c]", inSet("-abc")}, {"[a-c--/]", inSet("-./abc")}, {"[ab-]", inSet("-ab")}, {"[+-]", inSet("+-")}, {"[+-a]", inSet(allBytes('+', 'a'))},
		// What is a sign elsewhere is a byte here.
		{"[[]", inSet("[")}, {"[[[]", inSet("[")}, {"[.*+?$|()]", inSet("$()*+.?|")}, {"[\\]", inSet("\\")}, {"[\\a]", inSet("\\a")}, {"[\\\\]", inSet("\\")},
		{"[[a]", inSet("[a")}, {"[(]", inSet("(")}, {"[)]", inSet(")")}, {"[|]", inSet("|")}, {"[\\-a]", inSet("\\]^_`a")},
		// The first `]` ends it; one behind it is a byte.
		{"[a]]", cat(inSet("a"), chr(']'))}, {"[a-]]", cat(inSet("-a"), chr(']'))}, {"[\\]]", cat(inSet("\\"), chr(']'))},
		{"[a][b]", cat(inSet("a"), inSet("b"))}, {"[a]-[b]", cat(inSet("a"), chr('-'), inSet("b"))}, {"[a]*", star(inSet("a"))},
		{"[a]|[b]+", or(inSet("a"), plus(inSet("b")))}, {"([a|b])", inSet("ab|")}, {"([)])", inSet(")")},
		// A row may go over `]`, but neither begin nor end there.
		{"[A-z]", inSet(allBytes('A', 'z'))}, {"[\\-^]", inSet("\\]^")}, {"[^\\-^]", outOf("\\]^")}, {"[[-^]", inSet("[\\]^")},
		// All bytes, the first and the last ones.
		{"[\x00]", inSet("\x00")}, {"[\xff]", inSet("\xff")}, {"[\x00-\xff]", inSet(allBytes(0, 255))}, {"[^\x00-\xff]", outOf(allBytes(0, 255))},
		{"[\xff-\xff]", inSet("\xff")}, {"[\x00-\x00]", inSet("\x00")}, {"[\xf0-\xff]", inSet(allBytes(0xf0, 0xff))}, {"[\x7e-\x81]", inSet("\x7e\x7f\x80\x81")},
		{"[\x00-\x02]", inSet("\x00\x01\x02")}, {"[\u00e9]", inSet("\xa9\xc3")}, {"[\u00e9a]", inSet("a\xa9\xc3")}, {"[\n]", inSet("\n")},
	} {
		checkRex(t, k.s, k.want)
	}
}

func TestRexEachByte(t *testing.T) {
	signs := map[string]impl.Rex{".": anyOne, "^": begins, "$": ends}
	for b := range 256 {
		s := string([]byte{byte(b)})
		checkRex(t, "\\"+s, chr(b))
		checkRex(t, "\\"+s+"*", star(chr(b)))
		checkRex(t, "a\\"+s+"b", cat(chr('a'), chr(b), chr('b')))
		switch {
		case strings.Contains("()|*+?[\\", s):
			if s != "|" {
				checkNoRex(t, s)
			}
		case signs[s].Op != 0:
			checkRex(t, s, signs[s])
		default:
			checkRex(t, s, chr(b))
			checkRex(t, s+"+", plus(chr(b)))
		}
		if s == "]" {
			continue
		}
		checkRex(t, "[^"+s+"]", outOf(s))
		checkRex(t, "[^"+s+"-"+s+"]", outOf(s))
		if s != "^" {
			checkRex(t, "["+s+"]", inSet(s))
			checkRex(t, "["+s+"-"+s+"]", inSet(s))
		}
	}
}

// Every row there is: from each byte to each other one.
func TestRexEachRow(t *testing.T) {
	for low := range 256 {
		for high := range 256 {
			if low == ']' || high == ']' {
				continue
			}
			s := "[^" + string([]byte{byte(low), '-', byte(high)}) + "]"
			if low > high {
				checkNoRex(t, s)
				continue
			}
			if r, ok := impl.RexParse(s); !ok || !sameRex(r, outOf(allBytes(low, high))) {
				t.Fatalf("RexParse(%q) = %v, %v", s, r, ok)
			}
		}
	}
}

func TestRexNone(t *testing.T) {
	for _, s := range []string{
		// Brackets not closed, not opened.
		"(", ")", "(a", "a)", "((a)", "(a))", ")(", "a)b(", "a|(b", "(|", "|)", "()(", "(a|b", "a|b)", "(()", "())", "(\\)", "([)]",
		// Nothing ahead of `*`, `+`, `?`.
		"*", "+", "?", "*a", "a|*", "|+", "(*)", "(?a)", "(a|+)", "a(*b)", "|*|", "**", "(+)*", "^|?", "(|*)",
		// Sets that are empty or not closed.
		"[]", "[^]", "[]a]", "[^]a]", "[", "[^", "[a", "[^a", "[a-", "[a-b", "[-", "a[", "([a)", "[a\\", "[]]", "[^]]", "[]-a]", "[^]-a]", "[]^]", "a[]b", "[[", "[(", "([",
		// Rows to a lesser byte.
		"[b-a]", "[z-a]", "[a-Z]", "[^b-a]", "[ab-a]", "[a--]", "[a-b-a-]x[", "[c-ba]", "[a-ac-b]", "[\xff-\x00]", "[\x81-\x80]", "[\x80-\x7f]", "[\x01-\x00]", "[a-c-e-a]",
		// `\` at the end.
		"\\", "a\\", "\\\\\\", "a|\\", "(\\", "[a]\\", "a*\\",
		// Byte 0 and bytes above 127 are bytes like others.
		"(\x00", "\x00)", "[\x00", "\xff)", "(\xff", "[\xff", "*\xff",
	} {
		checkNoRex(t, s)
	}
}

func TestRexLength(t *testing.T) {
	for _, unit := range []string{"a", "|", "()", "\\)", "[a]", "a|b*", "\xff", "(a|b)", "[a-c]"} {
		full := strings.Repeat(unit, impl.MaxRex/len(unit))
		if len(full) != impl.MaxRex {
			t.Fatalf("%q does not go up to the limit", unit)
		}
		if r, ok := impl.RexParse(full); !ok || !impl.RexOk(r) {
			t.Errorf("RexParse of %d bytes of %q is refused", len(full), unit)
		}
		checkNoRex(t, full+"a")
		checkNoRex(t, "a"+full)
	}
	if r, _ := impl.RexParse(strings.Repeat("a", impl.MaxRex)); r.Op != impl.RxCat || len(r.Kids) != impl.MaxRex {
		t.Errorf("MaxRex bytes are %d kids", len(r.Kids))
	}
	if r, _ := impl.RexParse(strings.Repeat("|", impl.MaxRex)); r.Op != impl.RxOr || len(r.Kids) != impl.MaxRex+1 {
		t.Errorf("MaxRex times `|` are %d kids", len(r.Kids))
	}
	// Brackets count as bytes, not as Rex.
	half := impl.MaxRex/2 - 1
	checkRex(t, strings.Repeat("(", half)+"ab"+strings.Repeat(")", half), cat(chr('a'), chr('b')))
	checkRex(t, strings.Repeat("(", half+1)+strings.Repeat(")", half+1), empty)
	checkNoRex(t, strings.Repeat("(", half+1)+"a"+strings.Repeat(")", half+1))
	for _, unit := range []string{"(", ")", "[", "a", "*", "|", "\\", "\x00", "(a", "[a]"} {
		checkNoRex(t, strings.Repeat(unit, 1000000))
	}
}

// nested is a Rex of just so many within each other.
func nested(deep int) impl.Rex {
	r := chr('a')
	for i := 1; i < deep; i++ {
		switch i % 5 {
		case 0:
			r = cat(r, chr('b'))
		case 1:
			r = star(r)
		case 2:
			r = or(empty, r)
		case 3:
			r = plus(r)
		default:
			r = may(r)
		}
	}
	return r
}

func TestRexDeep(t *testing.T) {
	for deep := 1; deep <= 2*impl.MaxDeep; deep++ {
		marks := strings.Repeat("*", deep-1)
		r := nested(deep)
		if got := impl.RexOk(r); got != (deep <= impl.MaxDeep) {
			t.Errorf("RexOk of %d within each other is %v", deep, got)
		}
		// The deep one is not the first, and not the only one.
		if got := impl.RexOk(cat(chr('a'), anyOne, r, r)); got != (deep < impl.MaxDeep) {
			t.Errorf("RexOk of RxCat with %d within each other is %v", deep, got)
		}
		if got := impl.RexOk(or(r, chr('a'))); got != (deep < impl.MaxDeep) {
			t.Errorf("RexOk of RxOr with %d within each other is %v", deep, got)
		}
		if deep > impl.MaxDeep {
			checkNoRex(t, "a"+marks)
			checkNoRex(t, "(((a)))"+marks)
			checkNoRex(t, "(a*)"+marks[1:])
			checkNoRex(t, "b|a"+marks[1:])
			checkNoRex(t, "ba"+marks[1:]+"c")
			checkNoRex(t, "(b|ca"+marks[2:]+")")
			checkNoRex(t, "()"+marks)
			checkNoRex(t, "[a]"+marks)
			continue
		}
		want := chr('a')
		for range marks {
			want = star(want)
		}
		checkRex(t, "a"+marks, want)
		checkRex(t, "(((a)))"+marks, want)
		if deep < impl.MaxDeep {
			checkRex(t, "b|a"+marks, or(chr('b'), want))
			checkRex(t, "ba"+marks+"c", cat(chr('b'), want, chr('c')))
			checkRex(t, "(a"+marks+"|b)", or(want, chr('b')))
		}
		if deep < impl.MaxDeep-1 {
			checkRex(t, "(b|ca"+marks+")", or(chr('b'), cat(chr('c'), want)))
			checkRex(t, "(a"+marks+"|b)*", star(or(want, chr('b'))))
		}
	}
	// RxCat and RxOr within each other count one each; brackets do not.
	row := "a"
	for i := 1; i < impl.MaxDeep; i++ {
		row = bracketed(row) + "b"
	}
	if r, ok := impl.RexParse(row); !ok || !impl.RexOk(r) {
		t.Errorf("RexParse(%q) is refused", row)
	}
	checkNoRex(t, bracketed(row)+"b")
	checkNoRex(t, bracketed(row)+"|b")
	checkRex(t, bracketed("")+strings.Repeat("?", 2), may(may(empty)))
}

func TestRexOkRight(t *testing.T) {
	many := make([]impl.Rex, 5000)
	for i := range many {
		many[i] = chr(i % 256)
	}
	for _, r := range []impl.Rex{
		chr(0), chr('a'), chr(')'), chr(127), chr(128), chr(255), anyOne, begins, ends, empty,
		inSet("a"), inSet("abc"), outOf("abc"), inSet("\x00"), inSet("\xff"), inSet("\x00\xff"), inSet("\x7f\x80"), inSet(allBytes(0, 255)), outOf(allBytes(0, 255)),
		inSet("-"), inSet("-^"), inSet("^a"), outOf("^"), inSet("\\"), inSet("["), inSet("\\]^"), outOf("\\]^"), inSet("Z\\]^_"), inSet("-\\]^"),
		cat(empty, empty), cat(anyOne, begins), or(empty, empty), or(ends, or(anyOne, chr(1))), cat(cat(empty, empty), cat(empty, empty)),
		star(empty), plus(begins), may(ends), star(star(plus(may(chr('a'))))), star(or(cat(chr('a'), inSet("b")), empty)),
		// More than any text of MaxRex bytes may tell.
		cat(many...), or(many...), star(cat(or(many...), may(cat(many...)))),
		// An empty list is the same as nil.
		{Op: impl.RxNone, Kids: []impl.Rex{}}, {Op: impl.RxAny, Kids: make([]impl.Rex, 0, 4)}, {Op: impl.RxChar, C: 'a', Kids: []impl.Rex{}},
		star(impl.Rex{Op: impl.RxStart, Kids: []impl.Rex{}}),
	} {
		if !impl.RexOk(r) {
			t.Errorf("RexOk(%.200v) is false", r)
		}
	}
}

func TestRexOkWrong(t *testing.T) {
	a := chr('a')
	wrong := []impl.Rex{
		// Ops that there are not.
		{}, {Op: 12}, {Op: -1}, {Op: 100}, {Op: math.MaxInt}, {Op: math.MinInt}, {C: 'a'}, {Kids: []impl.Rex{a}}, {Op: 12, Kids: []impl.Rex{a, a}},
		// No bytes.
		chr(-1), chr(256), chr(math.MaxInt), chr(math.MinInt), chr(256 + 'a'), chr('a' - 256),
		// Too few or too many Kids.
		cat(), or(), cat(a), or(a), {Op: impl.RxStar}, {Op: impl.RxPlus}, {Op: impl.RxMay}, {Op: impl.RxStar, Kids: []impl.Rex{}},
		{Op: impl.RxStar, Kids: []impl.Rex{a, a}}, {Op: impl.RxPlus, Kids: []impl.Rex{a, a}}, {Op: impl.RxMay, Kids: []impl.Rex{a, a, a}},
		// Sets that are empty, do not ascend, or have a byte twice.
		inSet(""), outOf(""), inSet("ba"), inSet("aa"), outOf("ba"), outOf("aa"), inSet("abb"), inSet("aab"), inSet("acb"), inSet("abca"),
		inSet("\x80\x7f"), inSet("\xff\x00"), inSet("\u00e9"), inSet(allBytes(0, 255) + "\xff"), inSet(strings.Repeat("a", 1000)),
		// Sets that no text tells.
		inSet("]"), outOf("]"), inSet("a]"), inSet("\\]"), inSet("]^"), inSet("\\]_"), outOf("\\]"), outOf("]^"), inSet("^"),
	}
	// Things that are not named and not zero.
	for _, r := range []impl.Rex{a, anyOne, begins, ends, empty, cat(a, a), or(a, a), star(a), plus(a), may(a)} {
		if r.Op != impl.RxChar {
			for _, c := range []int{1, -1, 'a', 256, math.MinInt} {
				x := r
				x.C = c
				wrong = append(wrong, x)
			}
		}
		set, not, both := r, r, r
		set.Set, not.Not, both.Set, both.Not = "a", true, "a", true
		wrong = append(wrong, set, not, both)
		if len(r.Kids) == 0 {
			single, pair := r, r
			single.Kids, pair.Kids = []impl.Rex{a}, []impl.Rex{a, a}
			wrong = append(wrong, single, pair)
		}
	}
	wrong = append(wrong,
		impl.Rex{Op: impl.RxSet, Set: "a", C: 'a'}, impl.Rex{Op: impl.RxSet, Set: "a", Kids: []impl.Rex{a}},
		impl.Rex{Op: impl.RxSet, Not: true, Kids: []impl.Rex{a, a}})
	for _, r := range wrong {
		// A kid that is not right makes what has it not right, wherever it is.
		for _, x := range []impl.Rex{r, star(r), plus(r), may(r), cat(r, a), cat(a, r), or(a, r, a), or(a, cat(a, star(r)))} {
			if impl.RexOk(x) {
				t.Errorf("RexOk(%.200v) is true", x)
			}
		}
	}
}

// A list of Kids may hold itself: then there is no end of Rex within each other.
func TestRexOkEndless(t *testing.T) {
	loop := make([]impl.Rex, 1)
	loop[0] = impl.Rex{Op: impl.RxStar, Kids: loop}
	wide := make([]impl.Rex, 50)
	for i := range wide {
		wide[i] = impl.Rex{Op: impl.RxCat, Kids: wide}
	}
	last := make([]impl.Rex, 50)
	for i := range last {
		last[i] = chr(i)
	}
	last[49] = impl.Rex{Op: impl.RxOr, Kids: last}
	for _, r := range []impl.Rex{loop[0], wide[0], last[49], star(last[49])} {
		if impl.RexOk(r) {
			t.Error("RexOk of Rex without an end is true")
		}
	}
	deep := chr('a')
	for range 100000 {
		deep = star(deep)
	}
	if impl.RexOk(deep) {
		t.Error("RexOk of a very deep Rex is true")
	}
}

// What texts in square brackets tell is what RexOk takes: of all sets of some bytes.
func TestRexOkOfSets(t *testing.T) {
	const bytes = "-[\\]^_"
	type setKey struct {
		set string
		not bool
	}
	toldSets := map[setKey]int{}
	eachText(bytes, 6, func(s string) {
		if r, ok := impl.RexParse("[" + s + "]"); ok && r.Op == impl.RxSet {
			toldSets[setKey{r.Set, r.Not}]++
			if !impl.RexOk(r) {
				t.Errorf("RexOk of RexParse([%s]) is false", s)
			}
		}
	})
	for choice := range 1 << len(bytes) {
		set := ""
		for i := range bytes {
			if choice>>i&1 == 1 {
				set += bytes[i : i+1]
			}
		}
		for _, r := range []impl.Rex{inSet(set), outOf(set)} {
			want := toldSets[setKey{r.Set, r.Not}] > 0
			if got := impl.RexOk(r); got != want {
				t.Errorf("RexOk(%v) = %v; want %v", r, got, want)
			}
		}
	}
}

// eachText calls f with every text of at most so many of these bytes.
func eachText(bytes string, most int, f func(string)) {
	var grow func(s string)
	grow = func(s string) {
		f(s)
		if len(s) < most {
			for i := range bytes {
				grow(s + bytes[i:i+1])
			}
		}
	}
	grow("")
}

// splitRex is the document's grammar once more, read the other way round: by
// splitting whole texts, outermost first, not by going over them.
func splitRex(s string) (impl.Rex, bool) {
	words, ok := rexWords(s)
	if !ok {
		return impl.Rex{}, false
	}
	return splitParts(words)
}

// rexWords cuts s into signs, bytes with `\` ahead, and sets.
func rexWords(s string) ([]string, bool) {
	var words []string
	for s != "" {
		size := 1
		switch s[0] {
		case '\\':
			size = 2
		case '[':
			end := strings.Index(s, "]")
			if end < 0 {
				return nil, false
			}
			size = end + 1
		}
		if size > len(s) {
			return nil, false
		}
		words = append(words, s[:size])
		s = s[size:]
	}
	return words, true
}

func splitParts(words []string) (impl.Rex, bool) {
	level, from := 0, 0
	var parts []impl.Rex
	for i, w := range append(slices.Clone(words), "|") {
		switch w {
		case "(":
			level++
		case ")":
			level--
		}
		if level < 0 {
			return impl.Rex{}, false
		}
		if w == "|" && level == 0 {
			part, ok := splitPart(words[from:i])
			if !ok {
				return impl.Rex{}, false
			}
			parts = append(parts, part)
			from = i + 1
		}
	}
	if level != 0 {
		return impl.Rex{}, false
	}
	if len(parts) == 1 {
		return parts[0], true
	}
	return or(parts...), true
}

func splitPart(words []string) (impl.Rex, bool) {
	// From the end: first the marks, then the atom that they belong to.
	var pieces []impl.Rex
	for len(words) > 0 {
		end := len(words)
		for end > 0 && strings.Contains("*+?", words[end-1]) {
			end--
		}
		marks := words[end:]
		if end == 0 {
			return impl.Rex{}, false
		}
		from, level := end, 0
		for from == end || level > 0 {
			from--
			if from < 0 {
				return impl.Rex{}, false
			}
			switch words[from] {
			case ")":
				level++
			case "(":
				level--
			}
		}
		atom, ok := splitAtom(words[from:end])
		if !ok {
			return impl.Rex{}, false
		}
		for _, m := range marks {
			atom = marked(atom, m)
		}
		pieces = append(pieces, atom)
		words = words[:from]
	}
	slices.Reverse(pieces)
	switch len(pieces) {
	case 0:
		return empty, true
	case 1:
		return pieces[0], true
	}
	return cat(pieces...), true
}

func marked(r impl.Rex, mark string) impl.Rex {
	switch mark {
	case "*":
		return star(r)
	case "+":
		return plus(r)
	}
	return may(r)
}

func splitAtom(words []string) (impl.Rex, bool) {
	if len(words) > 1 {
		return splitParts(words[1 : len(words)-1])
	}
	w := words[0]
	switch {
	case w == "(":
		return impl.Rex{}, false
	case w == ".":
		return anyOne, true
	case w == "^":
		return begins, true
	case w == "$":
		return ends, true
	case w[0] == '\\':
		return chr(int(w[1])), true
	case w[0] == '[':
		return splitSet(w[1 : len(w)-1])
	}
	return chr(int(w[0])), true
}

func splitSet(s string) (impl.Rex, bool) {
	s, not := strings.CutPrefix(s, "^")
	in := map[byte]int{}
	for i := 0; i < len(s); {
		last := i
		if i+2 < len(s) && s[i+1] == '-' {
			last = i + 2
		}
		if s[last] < s[i] {
			return impl.Rex{}, false
		}
		for b := int(s[i]); b <= int(s[last]); b++ {
			in[byte(b)] = 1
		}
		i = last + 1
	}
	var set []byte
	for b := range in {
		set = append(set, b)
	}
	slices.Sort(set)
	return impl.Rex{Op: impl.RxSet, Set: string(set), Not: not}, len(set) > 0
}

func rexDepth(r impl.Rex) int {
	most := 0
	for _, kid := range r.Kids {
		most = max(most, rexDepth(kid))
	}
	return most + 1
}

func checkSplit(t *testing.T, s string) {
	t.Helper()
	want, ok := splitRex(s)
	if !ok || len(s) > impl.MaxRex || rexDepth(want) > impl.MaxDeep {
		checkNoRex(t, s)
		return
	}
	checkRex(t, s, want)
}

// Every short text, of all signs and of those of sets.
func TestRexEachText(t *testing.T) {
	if testing.Short() {
		t.Skip("long")
	}
	eachText("a|()*?", 6, func(s string) { checkSplit(t, s) })
	eachText("ab-^[]\\", 5, func(s string) { checkSplit(t, s) })
	eachText("a.^$|()*+?[]-\\\x00\xff", 4, func(s string) { checkSplit(t, s) })
	eachText("+-/^]", 5, func(s string) {
		checkSplit(t, "["+s)
		checkSplit(t, "["+s+"]")
	})
}

// Long texts by chance, the same ones each time.
func TestRexTextsByChance(t *testing.T) {
	chance := rand.New(rand.NewSource(3))
	words := []string{"a", "b", "ab", "|", "(", ")", "(", ")", "*", "+", "?", ".", "^", "$", "\\", "\\(", "[a-c]", "[^x]", "[-a]", "[", "]", "-", "\x00", "\xff", "()", "(a|b)", "***"}
	right := 0
	for range 60000 {
		s := ""
		for range chance.Intn(24) {
			s += words[chance.Intn(len(words))]
		}
		checkSplit(t, s)
		if _, ok := impl.RexParse(s); ok {
			right++
		}
	}
	if right < 1000 {
		t.Errorf("only %d of the texts are patterns", right)
	}
}

// rexByChance is some Rex that is right, at most so deep.
func rexByChance(chance *rand.Rand, deep int) impl.Rex {
	if deep > 1 && chance.Intn(3) > 0 {
		switch kid := rexByChance(chance, deep-1); chance.Intn(5) {
		case 0:
			return star(kid)
		case 1:
			return plus(kid)
		case 2:
			return may(kid)
		case 3:
			return cat(kid, rexByChance(chance, deep-1))
		default:
			return or(kid, rexByChance(chance, deep-1), rexByChance(chance, 1))
		}
	}
	const signs = "()[]|*+?.^$\\-a"
	leaves := []impl.Rex{anyOne, begins, ends, empty, chr(chance.Intn(256)), chr(int(signs[chance.Intn(len(signs))])), inSet("-a"), outOf("abc"), inSet("\x00\xff")}
	return leaves[chance.Intn(len(leaves))]
}

// writeRex is a text of r with brackets round all that is not a byte.
func writeRex(r impl.Rex) string {
	var kids []string
	for _, kid := range r.Kids {
		kids = append(kids, bracketed(writeRex(kid)))
	}
	switch r.Op {
	case impl.RxChar:
		return "\\" + string([]byte{byte(r.C)})
	case impl.RxSet:
		// Ascending, a `-` of the sets by chance stands first.
		if r.Not {
			return "[^" + r.Set + "]"
		}
		return "[" + r.Set + "]"
	case impl.RxCat:
		return strings.Join(kids, "")
	case impl.RxOr:
		return strings.Join(kids, "|")
	}
	mark := map[int]string{impl.RxAny: ".", impl.RxStart: "^", impl.RxEnd: "$", impl.RxStar: "*", impl.RxPlus: "+", impl.RxMay: "?"}
	return strings.Join(kids, "") + mark[r.Op]
}

func TestRexWritten(t *testing.T) {
	chance := rand.New(rand.NewSource(4))
	short := 0
	for range 20000 {
		r := rexByChance(chance, 1+chance.Intn(6))
		if !impl.RexOk(r) {
			t.Fatalf("RexOk(%v) is false", r)
		}
		if s := writeRex(r); len(s) <= impl.MaxRex {
			short++
			checkRex(t, s, r)
		} else {
			checkNoRex(t, s)
		}
	}
	if short < 5000 {
		t.Errorf("only %d texts were short enough", short)
	}
}

// Nothing is kept from one call to another, and no two lists of an answer
// share memory, nor the room behind it.
func TestRexOwnMemory(t *testing.T) {
	const s = "(ab|c*)+(ab|c*)+|[a-c]d"
	first, _ := impl.RexParse(s)
	second, _ := impl.RexParse(s)
	copied := plainRex(second)
	var spoil func(r *impl.Rex)
	spoil = func(r *impl.Rex) {
		for i := range r.Kids {
			spoil(&r.Kids[i])
		}
		room := r.Kids[:cap(r.Kids)]
		for i := range room {
			room[i] = impl.Rex{Op: -7}
		}
	}
	spoil(&first)
	if !sameRex(second, copied) {
		t.Error("two answers share memory")
	}
	// Spoiling one kid leaves the others as they were.
	for i := range copied.Kids {
		r, _ := impl.RexParse(s)
		spoil(&r.Kids[i])
		for j := range r.Kids {
			if j != i && !sameRex(r.Kids[j], copied.Kids[j]) {
				t.Errorf("kids %d and %d share memory", i, j)
			}
		}
	}
	if again, ok := impl.RexParse(s); !ok || !sameRex(again, copied) {
		t.Error("an answer hangs on what became of an earlier one")
	}
}

func TestRexOkWritesNothing(t *testing.T) {
	for _, right := range []bool{true, false} {
		kids := make([]impl.Rex, 2, 6)
		kids[0], kids[1] = star(chr('a')), inSet("ab")
		if !right {
			kids[1] = inSet("ba")
		}
		behind := kids[:cap(kids)]
		for i := len(kids); i < len(behind); i++ {
			behind[i] = impl.Rex{Op: 77, C: i}
		}
		before := slices.Clone(behind)
		if got := impl.RexOk(impl.Rex{Op: impl.RxCat, Kids: kids}); got != right {
			t.Errorf("RexOk = %v; want %v", got, right)
		}
		if !reflect.DeepEqual(behind, before) {
			t.Error("RexOk writes into its argument, or behind it")
		}
	}
}
