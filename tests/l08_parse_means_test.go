package tests

import (
	"math/rand"
	"reflect"
	"slices"
	"strings"
	"testing"

	"loop.example/g00289/impl"
)

// The tests of this file work out by other means what Parse tells: which token
// is the first one that does not fit, by a list of all that the chapter allows
// (grammarLines), gone through all ways at once; and the trees by cutting the
// tokens in two where what binds last stands, from the right.

// grammarLines has a line for each way in which something may be put together.
// Words in small letters that stand ahead of a `:` are put together; all others
// are tokens.
const grammarLines = `start: program END
program:
program: rule program
rule: BEGIN block
rule: block
rule: e block
rule: bare
bare: e
block: { statements }
statements:
statements: ; statements
statements: closed statements
statements: open
statements: open ; statements
closed: block
closed: if ( e ) block
closed: if ( e ) block else block
closed: while ( e ) block
open: print
open: print es
open: next
open: delete NAME [ e ]
open: e
es: e
es: e , es
e: NAME sets e
e: NAME [ e ] sets e
e: ors
sets: =
sets: +=
ors: ands
ors: ors || ands
ands: fit
ands: ands && fit
fit: comparison
fit: fit ~ comparison
fit: fit !~ comparison
comparison: row
comparison: row compares row
compares: <
compares: <=
compares: >
compares: >=
compares: ==
compares: !=
row: sum
row: row more
more: begun
more: more + product
more: more - product
begun: atom
begun: begun times unit
sum: product
sum: sum + product
sum: sum - product
product: unit
product: product times unit
times: *
times: /
times: %
unit: ! unit
unit: - unit
unit: atom
atom: NUMBER
atom: TEXT
atom: REX
atom: $ atom
atom: NR
atom: NF
atom: CALL ( )
atom: CALL ( es )
atom: NAME [ e ]
atom: NAME
atom: ( e )`

type grammarLine struct {
	head  string
	parts []string
}

type grammar struct {
	lines  []grammarLine
	byHead map[string][]int
	// height is how many are within each other at least, by line.
	height []int
	// number has a number for each part and for the end of a line; next has
	// what a line goes on with at each place of it, by numbers.
	number map[string]int
	next   [][]int
}

func newGrammar() *grammar {
	g := &grammar{byHead: map[string][]int{}}
	for i, line := range strings.Split(grammarLines, "\n") {
		head, rest, _ := strings.Cut(line, ":")
		g.lines = append(g.lines, grammarLine{head, strings.Fields(rest)})
		g.byHead[head] = append(g.byHead[head], i)
	}
	const unknown = 1000
	g.height = slices.Repeat([]int{unknown}, len(g.lines))
	for range g.lines {
		for i, line := range g.lines {
			most := 0
			for _, part := range line.parts {
				most = max(most, g.least(part))
			}
			g.height[i] = min(g.height[i], most+1)
		}
	}
	g.number = map[string]int{}
	for _, line := range g.lines {
		var next []int
		for _, part := range append(slices.Clone(line.parts), "") {
			if _, ok := g.number[part]; !ok {
				g.number[part] = len(g.number)
			}
			next = append(next, g.number[part])
		}
		g.next = append(g.next, next)
	}
	return g
}

func (g *grammar) least(part string) int {
	if len(g.byHead[part]) == 0 {
		return 0
	}
	lines := g.byHead[part]
	return g.height[slices.MinFunc(lines, func(a int, b int) int { return g.height[a] - g.height[b] })]
}

var callNames = keywords[9:]

// partOf is what a token is in the grammar.
func partOf(token impl.Token) string {
	switch token.Kind {
	case impl.TkEnd:
		return "END"
	case impl.TkNum:
		return "NUMBER"
	case impl.TkText:
		return "TEXT"
	case impl.TkRex:
		return "REX"
	case impl.TkName:
		if slices.Contains(callNames, token.Text) {
			return "CALL"
		}
		if !slices.Contains(keywords, token.Text) {
			return "NAME"
		}
	}
	return token.Text
}

// way is how far a line has come that began at a token.
type way struct {
	line int
	dot  int
	from int
}

// longestLine is how many parts a line has at most.
const longestLine = 7

// ways are all at a token, each once, and by the number of what they go on with.
type ways struct {
	list []way
	has  []bool
	by   [][]way
}

func (g *grammar) add(here *ways, more way) {
	key := (more.from*len(g.lines)+more.line)*(longestLine+1) + more.dot
	if here.has[key] {
		return
	}
	here.has[key] = true
	here.list = append(here.list, more)
	next := g.next[more.line][more.dot]
	here.by[next] = append(here.by[next], more)
}

// misfit is the number of the first token that no way goes on with; -1 where
// there is none.
func (g *grammar) misfit(tokens []impl.Token) int {
	var sets []ways
	begin := func() {
		sets = append(sets, ways{nil, make([]bool, (len(sets)+1)*len(g.lines)*(longestLine+1)), make([][]way, len(g.number))})
	}
	begin()
	g.add(&sets[0], way{g.byHead["start"][0], 0, 0})
	for at, token := range tokens {
		part, ok := g.number[partOf(token)]
		if !ok {
			return at
		}
		g.close(sets, partOf(token))
		if len(sets[at].by[part]) == 0 {
			return at
		}
		begin()
		for _, w := range sets[at].by[part] {
			g.add(&sets[at+1], way{w.line, w.dot + 1, w.from})
		}
	}
	return -1
}

// close adds all ways that are reached at a token without taking it. An e that
// has no block behind it goes on as long as it can: nothing but what it can't go
// on with ends it.
func (g *grammar) close(sets []ways, token string) {
	at := len(sets) - 1
	here := &sets[at]
	// The list grows while it is gone through.
	for i := 0; i < len(here.list); i++ {
		w := here.list[i]
		line := g.lines[w.line]
		if w.dot < len(line.parts) {
			for _, more := range g.byHead[line.parts[w.dot]] {
				g.add(here, way{more, 0, at})
				// What may be nothing is gone over at once: its end may have
				// been gone through already.
				if len(g.lines[more].parts) == 0 {
					g.add(here, way{w.line, w.dot + 1, w.from})
				}
			}
			continue
		}
		if line.head == "bare" && token != "END" && token != "BEGIN" && token != "!" {
			continue
		}
		for _, up := range sets[w.from].by[g.number[line.head]] {
			g.add(here, way{up.line, up.dot + 1, up.from})
		}
	}
}

// The functions bySplits tell trees from tokens that fit.

func isSign(token impl.Token, signs ...string) bool {
	return token.Kind == impl.TkSign && slices.Contains(signs, token.Text)
}

func isWord(token impl.Token, words ...string) bool {
	return token.Kind == impl.TkName && slices.Contains(words, token.Text)
}

// closes is where the bracket is shut that list begins with.
func closes(list []impl.Token) int {
	open := 0
	for i, token := range list {
		if isSign(token, "(", "[", "{") {
			open++
		}
		if isSign(token, ")", "]", "}") {
			open--
		}
		if open == 0 {
			return i
		}
	}
	return -1
}

// atTop has the numbers of the tokens that are in no brackets of list, and are no
// bracket that is shut.
func atTop(list []impl.Token) []int {
	var top []int
	for i := 0; i < len(list); i++ {
		top = append(top, i)
		if isSign(list[i], "(", "[", "{") {
			i += closes(list[i:])
		}
	}
	return top
}

// endsHere tells whether a value may end with a token: a sign behind it is
// between two, and a word behind it is another one.
func endsHere(token impl.Token) bool {
	return token.Kind != impl.TkSign && partOf(token) != "CALL" || isSign(token, ")", "]")
}

func beginsHere(token impl.Token) bool {
	return token.Kind != impl.TkSign && token.Kind != impl.TkEnd || isSign(token, "$", "(")
}

var splitSigns = []map[string]int{
	{"||": impl.NdOr},
	{"&&": impl.NdAnd},
	{"~": impl.NdFits, "!~": impl.NdFits},
	{"<": impl.NdLess, "<=": impl.NdMost, ">": impl.NdMore, ">=": impl.NdLeast, "==": impl.NdSame, "!=": impl.NdOther},
	nil, // a row has no sign
	{"+": impl.NdAdd, "-": impl.NdSub},
	{"*": impl.NdMul, "/": impl.NdDiv, "%": impl.NdMod},
}

func twoOf(op int, a impl.Node, b impl.Node) impl.Node {
	return impl.Node{Op: op, Kids: []impl.Node{a, b}}
}

func eBySplits(list []impl.Token) impl.Node {
	if behind := behindName(list); behind > 0 && isSign(list[behind], "=", "+=") {
		op := impl.NdSet
		if list[behind].Text == "+=" {
			op = impl.NdPlus
		}
		return twoOf(op, eBySplits(list[:behind]), eBySplits(list[behind+1:]))
	}
	top := atTop(list)
	for _, signs := range splitSigns {
		for _, at := range slices.Backward(top) {
			if at == 0 || !endsHere(list[at-1]) {
				continue
			}
			if signs == nil && beginsHere(list[at]) {
				return twoOf(impl.NdCat, eBySplits(list[:at]), eBySplits(list[at:]))
			}
			if op, ok := signs[list[at].Text]; ok && list[at].Kind == impl.TkSign {
				n := twoOf(op, eBySplits(list[:at]), eBySplits(list[at+1:]))
				if list[at].Text == "!~" {
					return impl.Node{Op: impl.NdNot, Kids: []impl.Node{n}}
				}
				return n
			}
		}
	}
	return unitBySplits(list)
}

// behindName is where that ends which may be set, 0 where list begins with
// something else, or nothing is behind it.
func behindName(list []impl.Token) int {
	if partOf(list[0]) != "NAME" || len(list) == 1 {
		return 0
	}
	if !isSign(list[1], "[") {
		return 1
	}
	behind := 1 + closes(list[1:]) + 1
	if behind == len(list) {
		return 0
	}
	return behind
}

func unitBySplits(list []impl.Token) impl.Node {
	first, rest := list[0], list[1:]
	one := func(op int) impl.Node { return impl.Node{Op: op, Kids: []impl.Node{eBySplits(rest)}} }
	switch part := partOf(first); part {
	case "!":
		return one(impl.NdNot)
	case "-":
		return one(impl.NdMinus)
	case "$":
		return one(impl.NdField)
	case "(":
		return eBySplits(rest[:len(rest)-1])
	case "NUMBER":
		return impl.Node{Op: impl.NdNum, N: first.N}
	case "TEXT":
		return impl.Node{Op: impl.NdText, S: first.Text}
	case "REX":
		return impl.Node{Op: impl.NdRex, S: first.Text}
	case "NR":
		return impl.Node{Op: impl.NdNr}
	case "NF":
		return impl.Node{Op: impl.NdNf}
	case "CALL":
		return impl.Node{Op: impl.NdCall, S: first.Text, Kids: esBySplits(rest[1 : len(rest)-1])}
	}
	if len(rest) == 0 {
		return impl.Node{Op: impl.NdVar, S: first.Text}
	}
	return impl.Node{Op: impl.NdCell, S: first.Text, Kids: []impl.Node{eBySplits(rest[1 : len(rest)-1])}}
}

func esBySplits(list []impl.Token) []impl.Node {
	if len(list) == 0 {
		return nil
	}
	for _, at := range slices.Backward(atTop(list)) {
		if isSign(list[at], ",") {
			return append(esBySplits(list[:at]), eBySplits(list[at+1:]))
		}
	}
	return []impl.Node{eBySplits(list)}
}

// blockBySplits is the block that list begins with, and what is behind it.
func blockBySplits(list []impl.Token) (impl.Node, []impl.Token) {
	end := closes(list)
	inner := list[1:end]
	n := impl.Node{Op: impl.NdBlock}
	for len(inner) > 0 {
		var kid impl.Node
		switch first := inner[0]; {
		case isSign(first, ";"):
			inner = inner[1:]
			continue
		case isSign(first, "{"):
			kid, inner = blockBySplits(inner)
		case isWord(first, "if", "while"):
			kid, inner = branchBySplits(inner)
		default:
			kid, inner = plainBySplits(inner)
		}
		n.Kids = append(n.Kids, kid)
	}
	return n, list[end+1:]
}

func branchBySplits(list []impl.Token) (impl.Node, []impl.Token) {
	shut := 1 + closes(list[1:])
	n := impl.Node{Op: impl.NdIf}
	if list[0].Text == "while" {
		n.Op = impl.NdWhile
	}
	body, rest := blockBySplits(list[shut+1:])
	n.Kids = []impl.Node{eBySplits(list[2:shut]), body}
	if len(rest) > 0 && isWord(rest[0], "else") {
		body, rest = blockBySplits(rest[1:])
		n.Kids = append(n.Kids, body)
	}
	return n, rest
}

func plainBySplits(list []impl.Token) (impl.Node, []impl.Token) {
	rest := list[len(list):]
	for i, token := range list {
		if isSign(token, ";") {
			list, rest = list[:i], list[i+1:]
			break
		}
	}
	switch {
	case isWord(list[0], "print"):
		return impl.Node{Op: impl.NdPrint, Kids: esBySplits(list[1:])}, rest
	case isWord(list[0], "next"):
		return impl.Node{Op: impl.NdNext}, rest
	case isWord(list[0], "delete"):
		return impl.Node{Op: impl.NdDrop, S: list[1].Text, Kids: []impl.Node{eBySplits(list[3 : len(list)-1])}}, rest
	}
	return impl.Node{Op: impl.NdDo, Kids: []impl.Node{eBySplits(list)}}, rest
}

func rulesBySplits(list []impl.Token) []impl.Rule {
	var rules []impl.Rule
	for len(list) > 0 && list[0].Kind != impl.TkEnd {
		r := impl.Rule{Kind: impl.RlAll}
		switch {
		case isWord(list[0], "BEGIN"):
			r.Kind = impl.RlBegin
			list = list[1:]
		case !isSign(list[0], "{"):
			end := 1
			for _, at := range atTop(list)[1:] {
				end = at
				if isSign(list[at], "{") || isWord(list[at], "BEGIN") || list[at].Kind == impl.TkEnd || isSign(list[at], "!") && endsHere(list[at-1]) {
					break
				}
			}
			r.Kind, r.Pat = impl.RlSome, eBySplits(list[:end])
			list = list[end:]
			if !isSign(list[0], "{") {
				r.Body = impl.Node{Op: impl.NdBlock, Kids: []impl.Node{{Op: impl.NdPrint}}}
				rules = append(rules, r)
				continue
			}
		}
		r.Body, list = blockBySplits(list)
		rules = append(rules, r)
	}
	return rules
}

func deepOf(n impl.Node) int {
	most := 0
	for _, kid := range n.Kids {
		most = max(most, deepOf(kid))
	}
	return most + 1
}

func plainNode(n impl.Node) impl.Node {
	kids := n.Kids
	n.Kids = nil
	for _, kid := range kids {
		n.Kids = append(n.Kids, plainNode(kid))
	}
	return n
}

func sameRules(a []impl.Rule, b []impl.Rule) bool {
	return slices.EqualFunc(a, b, func(a impl.Rule, b impl.Rule) bool {
		return a.Kind == b.Kind && reflect.DeepEqual(plainNode(a.Pat), plainNode(b.Pat)) && reflect.DeepEqual(plainNode(a.Body), plainNode(b.Body))
	})
}

// checkByMeans asks for what the other means tell of src, and tells what that
// place is.
func checkByMeans(t *testing.T, g *grammar, src string) int {
	t.Helper()
	tokens, want := impl.Tokens(src)
	var rules []impl.Rule
	if want == -1 {
		if i := g.misfit(tokens); i >= 0 {
			want = tokens[i].At
		}
	}
	if want == -1 {
		rules = rulesBySplits(tokens)
	}
	for _, r := range rules {
		if deepOf(r.Pat) > impl.MaxTree || deepOf(r.Body) > impl.MaxTree {
			rules, want = nil, 0
			break
		}
	}
	if list, bad := impl.Parse(src); bad != want || !sameRules(list, rules) {
		t.Errorf("Parse(%.300q) = %.300s, %d; want %.300s, %d", src, shownRules(list), bad, shownRules(rules), want)
	}
	return want
}

var meansWords = append(strings.Split("x 1 \"t\" /p/ $ ( ) [ ] { } ; , = += < == ~ !~ && || + - * / ! length NR", " "), keywords[:7]...)

// TestParseEachRow goes through all rows of few words, behind some beginnings,
// and leaves out only those of which a beginning is refused.
func TestParseEachRow(t *testing.T) {
	g := newGrammar()
	counted := 0
	var each func(src string, left int)
	each = func(src string, left int) {
		counted++
		at := checkByMeans(t, g, src)
		if at != -1 && at != len(src) || left == 0 {
			return
		}
		for _, word := range meansWords {
			each(src+" "+word, left-1)
		}
	}
	for _, word := range meansWords {
		each(word, 2)
	}
	for _, begin := range []string{
		"x", "!x", "x {", "{ } x", "BEGIN { x", "{ x", "{ x ;", "{ print", "{ print x", "{ print x ,", "{ next", "{ delete x", "{ delete x [ 1", "{ delete x [ 1 ]", "{ if", "{ if ( x", "{ if ( x )", "{ if ( x ) { }", "{ if ( x ) { } else", "{ if ( x ) { } else { }", "{ while ( x ) { }",
		"{ x =", "{ x = y", "{ x [ 1 ]", "{ x [ 1", "{ ( x )", "{ ( x", "{ length (", "{ length ( x", "{ length ( x ,", "{ length ( x )", "{ x < y", "{ x < y ~ z", "{ x ~ y", "{ x && y", "{ x || y <", "{ -", "{ $", "{ $ x", "{ 1", "{ /p/", "{ x * y", "{ x + y",
	} {
		each(begin, 2)
	}
	if counted < 30000 {
		t.Errorf("only %d rows", counted)
	}
}

// sentence puts words together by chance for a part, behind words: at most so
// many within each other, and not many more than most, if that can be.
func (g *grammar) sentence(chance *rand.Rand, words []string, part string, room int, most int) []string {
	lines := g.byHead[part]
	if len(lines) == 0 {
		return append(words, wordOf(chance, part))
	}
	line := lines[chance.Intn(len(lines))]
	if g.height[line] > room || len(words) > most {
		line = slices.MinFunc(lines, func(a int, b int) int { return g.height[a] - g.height[b] })
	}
	for _, part := range g.lines[line].parts {
		words = g.sentence(chance, words, part, room-1, most)
	}
	return words
}

func wordOf(chance *rand.Rand, part string) string {
	choices := map[string][]string{
		"END": {""}, "NAME": {"x", "y", "abcdefgh", "nr", "END"}, "NUMBER": {"0", "1", "2.5", "9000000"}, "TEXT": {`""`, `"t"`, `"print"`, `"("`, `"a\"b"`}, "REX": {"/p/", "//", `/a\/b/`, "/(/"}, "CALL": callNames,
	}
	if list := choices[part]; len(list) > 0 {
		return list[chance.Intn(len(list))]
	}
	return part
}

func joined(chance *rand.Rand, words []string) string {
	gaps := []string{" ", " ", " ", "\n", "  ", " # } ) x\n"}
	var src strings.Builder
	for _, word := range words {
		src.WriteString(word + gaps[chance.Intn(len(gaps))])
	}
	return src.String()
}

// turned is words with few of them left out, put in, exchanged or gone.
func turned(chance *rand.Rand, words []string) []string {
	words = slices.Clone(words)
	for range 1 + chance.Intn(2) {
		at := chance.Intn(len(words))
		other := meansWords[chance.Intn(len(meansWords))]
		switch chance.Intn(5) {
		case 0:
			words = slices.Delete(words, at, at+1)
		case 1:
			words = slices.Insert(words, at, other)
		case 2:
			words[at] = other
		case 3:
			words = words[:at+1]
		case 4:
			to := chance.Intn(len(words))
			words[at], words[to] = words[to], words[at]
		}
		if len(words) == 0 {
			return []string{other}
		}
	}
	return words
}

func TestParseByChance(t *testing.T) {
	g := newGrammar()
	chance := rand.New(rand.NewSource(88))
	right, tooDeep, wrong := 0, 0, 0
	count := func(src string, at int) {
		switch {
		case at == -1:
			right++
		case at == 0 && !strings.ContainsAny(src[:1], "});,"):
			tooDeep++
		default:
			wrong++
		}
	}
	for _, part := range []string{"start", "block", "e", "fit", "row", "sum", "unit", "closed", "open"} {
		for range 300 {
			words := g.sentence(chance, nil, part, 12+chance.Intn(30), 40)
			if part == "closed" || part == "open" {
				words = append(append([]string{"{"}, words...), "}")
			}
			src := joined(chance, words)
			count(src, checkByMeans(t, g, src))
			src = joined(chance, turned(chance, words))
			count(src, checkByMeans(t, g, src))
		}
	}
	if right < 1500 || tooDeep < 20 || wrong < 1000 {
		t.Errorf("only %d right, %d too deep, %d wrong", right, tooDeep, wrong)
	}
}

// TestParseAnyBytes: whatever comes in is told, by the place where Tokens tells
// it or by the other means.
func TestParseAnyBytes(t *testing.T) {
	g := newGrammar()
	chance := rand.New(rand.NewSource(89))
	for range 20000 {
		checkByMeans(t, g, fewBytes(chance, allBytes(0, 255), 6))
		checkByMeans(t, g, fewBytes(chance, "xx11\"/$()[]{};,=<>!~&|+-*%  \n#", 12))
	}
}

// TestParseWritten puts trees together by chance, writes them with no brackets
// but those that they need, and asks for them back.
func TestParseWritten(t *testing.T) {
	chance := rand.New(rand.NewSource(90))
	for range 8000 {
		n := nodeByChance(chance, 1+chance.Intn(6))
		src := "{" + nodeText(chance, n, 0) + "}"
		want := []impl.Rule{{Kind: impl.RlAll, Body: impl.Node{Op: impl.NdBlock, Kids: []impl.Node{{Op: impl.NdDo, Kids: []impl.Node{n}}}}}}
		if len(src) > impl.MaxSource {
			continue
		}
		if list, bad := impl.Parse(src); bad != -1 || !sameRules(list, want) {
			t.Errorf("Parse(%.300q) = %.300s, %d; want %.300s", src, shownRules(list), bad, shownRules(want))
		}
	}
}

// levelOf is how early an op binds: what is of a lower one must be in brackets
// where a higher one is asked for.
func levelOf(op int) int {
	switch {
	case op == impl.NdSet || op == impl.NdPlus:
		return 0
	case op == impl.NdOr:
		return 1
	case op == impl.NdAnd:
		return 2
	case op == impl.NdFits:
		return 3
	case op >= impl.NdLess && op <= impl.NdOther:
		return 4
	case op == impl.NdCat:
		return 5
	case op == impl.NdAdd || op == impl.NdSub:
		return 6
	case op >= impl.NdMul && op <= impl.NdMod:
		return 7
	case op == impl.NdNot || op == impl.NdMinus:
		return 8
	}
	return 9
}

func nodeByChance(chance *rand.Rand, room int) impl.Node {
	name := []string{"x", "y", "abc"}[chance.Intn(3)]
	if room == 0 || chance.Intn(8) == 0 {
		return []impl.Node{{Op: impl.NdVar, S: name}, {Op: impl.NdNum, N: chance.Intn(9) * one}, {Op: impl.NdText, S: name}, {Op: impl.NdRex, S: name}, {Op: impl.NdNr}, {Op: impl.NdNf}}[chance.Intn(6)]
	}
	kid := func() impl.Node { return nodeByChance(chance, room-1) }
	n := impl.Node{Op: impl.NdCell + chance.Intn(impl.NdCall-impl.NdCell+1)}
	switch n.Op {
	case impl.NdNr, impl.NdNf:
	case impl.NdCell:
		n.S, n.Kids = name, []impl.Node{kid()}
	case impl.NdField, impl.NdNot, impl.NdMinus:
		n.Kids = []impl.Node{kid()}
	case impl.NdCall:
		n.S = callNames[chance.Intn(len(callNames))]
		for range chance.Intn(4) {
			n.Kids = append(n.Kids, kid())
		}
	case impl.NdSet, impl.NdPlus:
		n.Kids = []impl.Node{{Op: impl.NdVar, S: name}, kid()}
		if chance.Intn(2) == 0 {
			n.Kids[0] = impl.Node{Op: impl.NdCell, S: name, Kids: []impl.Node{kid()}}
		}
	default:
		n.Kids = []impl.Node{kid(), kid()}
	}
	return n
}

// nodeText writes n where what binds later than least must be in brackets.
func nodeText(chance *rand.Rand, n impl.Node, least int) string {
	if n.Op == impl.NdNot && n.Kids[0].Op == impl.NdFits && chance.Intn(2) == 0 {
		text := nodeText(chance, n.Kids[0].Kids[0], 3) + " !~ " + nodeText(chance, n.Kids[0].Kids[1], 4)
		if least > 3 {
			return "(" + text + ")"
		}
		return text
	}
	text := bareText(chance, n)
	if levelOf(n.Op) < least || chance.Intn(12) == 0 {
		return "(" + text + ")"
	}
	return text
}

func bareText(chance *rand.Rand, n impl.Node) string {
	kid := func(i int, least int) string { return nodeText(chance, n.Kids[i], least) }
	level := levelOf(n.Op)
	switch n.Op {
	case impl.NdNum:
		return impl.DecText(n.N)
	case impl.NdText:
		return `"` + n.S + `"`
	case impl.NdRex:
		// Behind a value the first byte would be a sign.
		return "(/" + n.S + "/)"
	case impl.NdVar:
		return n.S
	case impl.NdCell:
		return n.S + "[" + kid(0, 0) + "]"
	case impl.NdCall:
		var es []string
		for i := range n.Kids {
			es = append(es, kid(i, 0))
		}
		return n.S + "(" + strings.Join(es, ",") + ")"
	case impl.NdNr:
		return "NR"
	case impl.NdNf:
		return "NF"
	case impl.NdField:
		return "$" + kid(0, 9)
	case impl.NdNot:
		return "! " + kid(0, 8)
	case impl.NdMinus:
		return "-" + kid(0, 8)
	case impl.NdSet, impl.NdPlus:
		sign := map[int]string{impl.NdSet: "=", impl.NdPlus: "+="}[n.Op]
		return bareText(chance, n.Kids[0]) + sign + kid(1, 0)
	case impl.NdCat:
		right := kid(1, 6)
		// A row goes on with no such sign.
		if strings.ContainsAny(right[:1], "!-") {
			right = "(" + right + ")"
		}
		return kid(0, 5) + " " + right
	}
	left := level
	if level == 4 {
		left = 5
	}
	for sign, op := range splitSigns[level-1] {
		if op == n.Op && sign != "!~" {
			return kid(0, left) + " " + sign + " " + kid(1, level+1)
		}
	}
	return "?"
}
