package tests

import (
	"fmt"
	"math/rand"
	"regexp"
	"slices"
	"strings"
	"sync"
	"testing"

	"loop.example/g00289/impl"
)

func tkName(at int, s string) impl.Token { return impl.Token{Kind: impl.TkName, Text: s, At: at} }
func tkText(at int, s string) impl.Token { return impl.Token{Kind: impl.TkText, Text: s, At: at} }
func tkRex(at int, s string) impl.Token  { return impl.Token{Kind: impl.TkRex, Text: s, At: at} }
func tkSign(at int, s string) impl.Token { return impl.Token{Kind: impl.TkSign, Text: s, At: at} }
func tkEnd(at int) impl.Token            { return impl.Token{Kind: impl.TkEnd, At: at} }

func tkNum(at int, s string, n int) impl.Token {
	return impl.Token{Kind: impl.TkNum, Text: s, N: n, At: at}
}

var (
	longSigns  = []string{"==", "!=", "<=", ">=", "&&", "||", "+=", "!~"}
	shortSigns = strings.Split("(){}[],;=<>!~+-*/%$", "")
	keywords   = []string{"BEGIN", "print", "if", "else", "while", "next", "delete", "NR", "NF", "length", "substr", "index", "int", "upper", "lower"}
)

// checkTokens asks for all tokens of src, without TkEnd, which stands behind
// them whatever they are.
func checkTokens(t *testing.T, src string, want ...impl.Token) {
	t.Helper()
	want = append(slices.Clone(want), tkEnd(len(src)))
	if list, bad := impl.Tokens(src); bad != -1 || !slices.Equal(list, want) {
		t.Errorf("Tokens(%.80q) = %s, %d; want %s, -1", src, shownTokens(list), bad, shownTokens(want))
	}
}

func shownTokens(list []impl.Token) string { return fmt.Sprintf("%.300q", fmt.Sprint(list)) }

func checkNoTokens(t *testing.T, src string, want int) {
	t.Helper()
	if list, bad := impl.Tokens(src); bad != want || len(list) != 0 {
		t.Errorf("Tokens(%.80q) = %s, %d; want nothing, %d", src, shownTokens(list), bad, want)
	}
}

func TestTokenConstants(t *testing.T) {
	got := []int{impl.TkEnd, impl.TkName, impl.TkNum, impl.TkText, impl.TkRex, impl.TkSign, impl.MaxSource}
	if !slices.Equal(got, []int{0, 1, 2, 3, 4, 5, 2000}) {
		t.Errorf("constants are %v", got)
	}
}

func TestTokensOfPrograms(t *testing.T) {
	checkTokens(t, "")
	checkTokens(t, "  \n # nothing\n\n ")
	checkTokens(t, `BEGIN { n = 0; }`, tkName(0, "BEGIN"), tkSign(6, "{"), tkName(8, "n"), tkSign(10, "="), tkNum(12, "0", 0), tkSign(13, ";"), tkSign(15, "}"))
	checkTokens(t, "$1 ~ /a\\/b/ {\n  x += 2.5; # more\n}\n",
		tkSign(0, "$"), tkNum(1, "1", one), tkSign(3, "~"), tkRex(5, "a/b"), tkSign(12, "{"),
		tkName(16, "x"), tkSign(18, "+="), tkNum(21, "2.5", 2500000), tkSign(24, ";"), tkSign(33, "}"))
	checkTokens(t, `a[$2]=NR/2;print"x\"y",a[1]/NF`,
		tkName(0, "a"), tkSign(1, "["), tkSign(2, "$"), tkNum(3, "2", 2*one), tkSign(4, "]"), tkSign(5, "="), tkName(6, "NR"), tkSign(8, "/"), tkNum(9, "2", 2*one), tkSign(10, ";"),
		tkName(11, "print"), tkText(16, `x"y`), tkSign(22, ","), tkName(23, "a"), tkSign(24, "["), tkNum(25, "1", one), tkSign(26, "]"), tkSign(27, "/"), tkName(28, "NF"))
	checkTokens(t, `!(x!~/^a|b$/)&&NF>=3||/c/{next}`,
		tkSign(0, "!"), tkSign(1, "("), tkName(2, "x"), tkSign(3, "!~"), tkRex(5, "^a|b$"), tkSign(12, ")"), tkSign(13, "&&"), tkName(15, "NF"), tkSign(17, ">="), tkNum(19, "3", 3*one),
		tkSign(20, "||"), tkRex(22, "c"), tkSign(25, "{"), tkName(26, "next"), tkSign(30, "}"))
}

func TestTokenNames(t *testing.T) {
	for _, s := range append([]string{"a", "Z", "z", "A", "xY", "abcdefgh", "ZYXWVUTS", "azAZ"}, keywords...) {
		checkTokens(t, s, tkName(0, s))
		checkTokens(t, " "+s+"\n", tkName(1, s))
		checkTokens(t, "("+s+")", tkSign(0, "("), tkName(1, s), tkSign(1+len(s), ")"))
		checkTokens(t, s+" "+s, tkName(0, s), tkName(len(s)+1, s))
	}
	// Digits are no letters: a name ends where one stands.
	checkTokens(t, "a1", tkName(0, "a"), tkNum(1, "1", one))
	checkTokens(t, "abcdefgh12ijklmnop", tkName(0, "abcdefgh"), tkNum(8, "12", 12*one), tkName(10, "ijklmnop"))
	checkTokens(t, `a"b"c`, tkName(0, "a"), tkText(1, "b"), tkName(4, "c"))
	checkTokens(t, "abcdefgh#i\njklmnopq", tkName(0, "abcdefgh"), tkName(11, "jklmnopq"))
	// One letter more is no name, nor are two of them.
	for _, s := range []string{"abcdefghi", "ABCDEFGHI", "abcdefghijklmnop", "abcdefghijklmnopq", strings.Repeat("x", 1000)} {
		checkNoTokens(t, s, 0)
		checkNoTokens(t, s+" ", 0)
		checkNoTokens(t, " \n"+s, 2)
		checkNoTokens(t, "a+"+s+"+@", 2)
		checkNoTokens(t, "1"+s, 1)
	}
	for _, s := range []string{"_", "a_b", "_a", "a.b", "a'", "\u00e9", "a\u00e9", "\uff21", "a\u0301"} {
		checkNoTokens(t, s, strings.IndexFunc(s, func(r rune) bool { return r != 'a' }))
	}
}

func TestTokenNumbers(t *testing.T) {
	noughts := strings.Repeat("0", 1900)
	for _, c := range []struct {
		s string
		n int
	}{
		{"0", 0}, {"7", 7 * one}, {"10", 10 * one}, {"0001234567", 1234567 * one}, {"007", 7 * one}, {"2.5", 2500000}, {"0.5", 500000}, {"00.50", 500000}, {"12.000", 12 * one}, {"0.0", 0},
		// Six digits behind the byte 46.
		{"1.123456", 1123456}, {"0.000001", 1}, {"0.000000", 0}, {"3.100000", 3100000}, {"1.12345", 1123450},
		// Limits.
		{"9000000", top}, {"8999999.999999", top - 1}, {"9000000.0", top}, {"9000000.000000", top}, {"00009000000", top}, {noughts, 0}, {noughts + "9000000", top}, {noughts + "1.5", 1500000},
	} {
		checkTokens(t, c.s, tkNum(0, c.s, c.n))
		checkTokens(t, " \n"+c.s+" ", tkNum(2, c.s, c.n))
		checkTokens(t, c.s+"x", tkNum(0, c.s, c.n), tkName(len(c.s), "x"))
		checkTokens(t, "x"+c.s, tkName(0, "x"), tkNum(1, c.s, c.n))
		// The sign ahead is not of the number.
		checkTokens(t, "-"+c.s, tkSign(0, "-"), tkNum(1, c.s, c.n))
		checkTokens(t, "+"+c.s, tkSign(0, "+"), tkNum(1, c.s, c.n))
		// A byte 46 behind it that no digit follows is none of it, nor a second one.
		if strings.Contains(c.s, ".") {
			checkNoTokens(t, c.s+".5", len(c.s))
		}
		for _, behind := range []string{".", ". ", ".x", ". 5", "..5", ".\n5", ".\"5\"", ".\xb1"} {
			checkNoTokens(t, c.s+behind, len(c.s))
			checkNoTokens(t, "x = "+c.s+behind, len(c.s)+4)
		}
	}
	for _, s := range []string{
		"1.1234567", "0.0000000", "0.0000001", "1.1000000", "1.12345678", "9000000.0000000", "1." + noughts,
		"9000001", "9000000.000001", "9000000.1", "0123456789", "10000000", "9000000000000", "0009000001", "99999999", "9223372036854775807", "9223372036854775808",
		"18446744073709551615", "18446744073709551616", "18446744073709551617", "18446744073709.551617", "1" + noughts, noughts + "9000001", strings.Repeat("9", 1900), strings.Repeat("9", 1900) + ".5",
	} {
		checkNoTokens(t, s, 0)
		checkNoTokens(t, "x "+s, 2)
		checkNoTokens(t, "-"+s, 1)
		checkNoTokens(t, "("+s+")@", 1)
		checkNoTokens(t, s+".", 0)
	}
	for _, s := range []string{".", ".5", ".5.5", "..", ".x"} {
		checkNoTokens(t, s, 0)
		checkNoTokens(t, "1 "+s, 2)
		checkNoTokens(t, "x"+s, 1)
	}
	checkTokens(t, "1e3", tkNum(0, "1", one), tkName(1, "e"), tkNum(2, "3", 3*one))
	checkTokens(t, "0x1f", tkNum(0, "0", 0), tkName(1, "x"), tkNum(2, "1", one), tkName(3, "f"))
	checkTokens(t, "1 2,3", tkNum(0, "1", one), tkNum(2, "2", 2*one), tkSign(3, ","), tkNum(4, "3", 3*one))
}

// checkEnclosed asks for a text or pattern alone, and with tokens around it.
func checkEnclosed(t *testing.T, kind int, src string, inner string) {
	t.Helper()
	token := func(at int) impl.Token { return impl.Token{Kind: kind, Text: inner, At: at} }
	checkTokens(t, src, token(0))
	checkTokens(t, " \n"+src+" ", token(2))
	checkTokens(t, "("+src+")", tkSign(0, "("), token(1), tkSign(1+len(src), ")"))
	checkTokens(t, "#\n~"+src+"x", tkSign(2, "~"), token(3), tkName(3+len(src), "x"))
	checkNoTokens(t, src+"@", len(src))
	checkNoTokens(t, src+"\"", len(src))
}

func TestTokenTexts(t *testing.T) {
	for _, c := range [][2]string{
		{`""`, ``}, {`"a"`, `a`}, {`"a b"`, `a b`}, {`" "`, ` `}, {`"a/b"`, `a/b`}, {`"'"`, `'`}, {`"#"`, `#`}, {`"a # b"`, `a # b`}, {`"print"`, `print`}, {`"1.1234567"`, `1.1234567`}, {`"abcdefghi"`, `abcdefghi`},
		// Behind a byte 92: a byte 34, a byte 92, any other one, as it is.
		{`"\""`, `"`}, {`"a\"b"`, `a"b`}, {`"\"\""`, `""`}, {`"\\"`, `\`}, {`"\\\\"`, `\\`}, {`"\\\""`, `\"`}, {`"\\\\\""`, `\\"`}, {`"a\\b"`, `a\b`},
		{`"\n"`, `n`}, {`"\t"`, `t`}, {`"\x41"`, `x41`}, {`"\/"`, `/`}, {`"\ "`, ` `}, {`"\#"`, `#`}, {`"\0"`, `0`}, {"\"\\\x00\"", "\x00"}, {"\"\\\xff\"", "\xff"}, {"\"\\\u00e9\"", "\u00e9"},
		{"\"\t\r\x00\"", "\t\r\x00"}, {"\"\u00e9\"", "\u00e9"}, {"\"\xff\xc3\x80\"", "\xff\xc3\x80"},
		{`"` + strings.Repeat("x", 301) + `"`, strings.Repeat("x", 301)}, {`"` + strings.Repeat(`\"`, 900) + `"`, strings.Repeat(`"`, 900)},
	} {
		checkEnclosed(t, impl.TkText, c[0], c[1])
	}
	checkTokens(t, `"a""b"`, tkText(0, "a"), tkText(3, "b"))
	checkTokens(t, `"\\""\""`, tkText(0, `\`), tkText(4, `"`))
	// Without an end, or with a byte 10, bare or behind a byte 92.
	for _, s := range []string{
		`"`, `"a`, `"a\"`, `"\"`, `"\`, `"a\`, `"\\\"`, `"\\\`, "\"\n\"", "\"a\nb\"", "\"\\\n\"", "\"a\\\nb\"", "\"\\\\\n\"", "\"a\n", "\"\\\n", "\"#\n\"", "\"a\n\"b\"",
		`"` + strings.Repeat("x", 1900), `"` + strings.Repeat(`\"`, 900), `"a'`, `"/`,
	} {
		checkNoTokens(t, s, 0)
		checkNoTokens(t, "x "+s, 2)
		checkNoTokens(t, "\n"+s, 1)
		checkNoTokens(t, `"b"+`+s, 4)
	}
	checkNoTokens(t, `"a" "b`, 4)
	checkNoTokens(t, `"a"b"c`, 4)
}

func TestTokenEnclosedEachByte(t *testing.T) {
	for b := range 256 {
		alone := string([]byte{byte(b)})
		switch alone {
		case "\n":
			checkNoTokens(t, `"`+alone+`"`, 0)
			checkNoTokens(t, `"\`+alone+`"`, 0)
			checkNoTokens(t, "/"+alone+"/", 0)
			checkNoTokens(t, `/\`+alone+"/", 0)
			continue
		case `"`:
			checkNoTokens(t, `"`+alone+`"`, 2)
		case `\`:
			checkNoTokens(t, `"`+alone+`"`, 0)
		default:
			checkEnclosed(t, impl.TkText, `"`+alone+`"`, alone)
		}
		checkEnclosed(t, impl.TkText, `"\`+alone+`"`, alone)
		switch alone {
		case "/":
			checkTokens(t, "/"+alone+"/", tkRex(0, ""), tkSign(2, "/"))
			checkEnclosed(t, impl.TkRex, `/\`+alone+"/", alone)
			continue
		case `\`:
			checkNoTokens(t, "/"+alone+"/", 0)
		default:
			checkEnclosed(t, impl.TkRex, "/"+alone+"/", alone)
		}
		checkEnclosed(t, impl.TkRex, `/\`+alone+"/", `\`+alone)
	}
}

func TestTokenPatterns(t *testing.T) {
	for _, c := range [][2]string{
		{`//`, ``}, {`/a/`, `a`}, {`/a b/`, `a b`}, {`/#/`, `#`}, {`/a # b/`, `a # b`}, {`/"/`, `"`}, {`/a"b"/`, `a"b"`}, {`/=/`, `=`}, {`/[/`, `[`}, {`/*/`, `*`},
		// Of `\/` the `/` alone; else both stay.
		{`/\//`, `/`}, {`/a\/b/`, `a/b`}, {`/\/\//`, `//`}, {`/\\/`, `\\`}, {`/\\\//`, `\\/`}, {`/\\\\/`, `\\\\`}, {`/\\\\\//`, `\\\\/`}, {`/a\\\/\\/`, `a\\/\\`},
		{`/\./`, `\.`}, {`/\"/`, `\"`}, {`/\n/`, `\n`}, {`/\ /`, `\ `}, {`/\#/`, `\#`}, {`/[\/]/`, `[/]`}, {"/\\\x00/", "\\\x00"}, {"/\\\xff/", "\\\xff"},
		{"/\t\r\x00/", "\t\r\x00"}, {"/\u00e9/", "\u00e9"}, {"/\xff\xc3\x80/", "\xff\xc3\x80"},
		{`/` + strings.Repeat("x", 61) + `/`, strings.Repeat("x", 61)}, {`/` + strings.Repeat(`\/`, 900) + `/`, strings.Repeat(`/`, 900)}, {`/` + strings.Repeat(`\\`, 900) + `/`, strings.Repeat(`\\`, 900)},
	} {
		checkEnclosed(t, impl.TkRex, c[0], c[1])
	}
	// What has no end where one may begin is no sign either.
	for _, s := range []string{
		`/`, `/a`, `/a\/`, `/\/`, `/\`, `/a\`, `/\\\/`, "/\n/", "/a\nb/", "/\\\n/", "/a\\\nb/", "/a\n", "/#\n/", "/=", "/ 2", `/"a"`, "/" + strings.Repeat("x", 1900), "/" + strings.Repeat(`\/`, 900),
	} {
		checkNoTokens(t, s, 0)
		checkNoTokens(t, "( "+s, 2)
		checkNoTokens(t, "\n"+s, 1)
		checkNoTokens(t, "x /"+s, 3)
		checkNoTokens(t, "/a/ + "+s, 6)
	}
}

// TestTokenPatternPlaces: what stands ahead, and not what is between, tells
// whether a `/` begins a pattern.
func TestTokenPatternPlaces(t *testing.T) {
	gaps := []string{"", " ", "\n", "   \n ", "#\n", "# /b/ (\n", "#\")]\n"}
	values := map[string]impl.Token{
		"x": tkName(0, "x"), "print": tkName(0, "print"), "NR": tkName(0, "NR"), "BEGIN": tkName(0, "BEGIN"), "7": tkNum(0, "7", 7*one), "2.5": tkNum(0, "2.5", 2500000), "0": tkNum(0, "0", 0),
		`""`: tkText(0, ""), `"a"`: tkText(0, "a"), `"("`: tkText(0, "("), `";"`: tkText(0, ";"), "/a/": tkRex(0, "a"), "//": tkRex(0, ""), "/(/": tkRex(0, "("), "/,/": tkRex(0, ","), ")": tkSign(0, ")"), "]": tkSign(0, "]"),
	}
	for _, gap := range gaps {
		for s, token := range values {
			at := len(s + gap)
			checkTokens(t, s+gap+"/b/", token, tkSign(at, "/"), tkName(at+1, "b"), tkSign(at+2, "/"))
			checkTokens(t, s+gap+"/", token, tkSign(at, "/"))
			checkTokens(t, s+gap+"/=", token, tkSign(at, "/"), tkSign(at+1, "="))
			checkTokens(t, s+gap+"/ /b/", token, tkSign(at, "/"), tkRex(at+2, "b"))
			checkTokens(t, s+gap+"///", token, tkSign(at, "/"), tkRex(at+1, ""))
			checkNoTokens(t, s+gap+"//", at+1)
			checkNoTokens(t, s+gap+`/\/`, at+1)
		}
		for _, s := range append(slices.Clone(longSigns), shortSigns...) {
			if s == ")" || s == "]" || s == "/" {
				continue
			}
			at := len(s + gap)
			checkTokens(t, s+gap+"/b/", tkSign(0, s), tkRex(at, "b"))
			checkTokens(t, s+gap+"/=/", tkSign(0, s), tkRex(at, "="))
			checkTokens(t, s+gap+"//", tkSign(0, s), tkRex(at, ""))
			checkNoTokens(t, s+gap+"/", at)
			checkNoTokens(t, s+gap+"/b", at)
			checkNoTokens(t, s+gap+"/\n/", at)
		}
		checkTokens(t, gap+"/b/", tkRex(len(gap), "b"))
		checkNoTokens(t, gap+"/b", len(gap))
	}
	checkTokens(t, "/a/ /b/ /c/", tkRex(0, "a"), tkSign(4, "/"), tkName(5, "b"), tkSign(6, "/"), tkRex(8, "c"))
	checkTokens(t, "/a//b//c/", tkRex(0, "a"), tkSign(3, "/"), tkName(4, "b"), tkSign(5, "/"), tkRex(6, "c"))
	checkTokens(t, "//////", tkRex(0, ""), tkSign(2, "/"), tkRex(3, ""), tkSign(5, "/"))
}

func TestTokenSigns(t *testing.T) {
	for _, s := range append(slices.Clone(longSigns), shortSigns...) {
		if s == "/" {
			checkTokens(t, "x/y", tkName(0, "x"), tkSign(1, s), tkName(2, "y"))
			continue
		}
		checkTokens(t, s, tkSign(0, s))
		checkTokens(t, " \n"+s+" ", tkSign(2, s))
		checkTokens(t, "x"+s+"1", tkName(0, "x"), tkSign(1, s), tkNum(1+len(s), "1", one))
		checkTokens(t, s+" "+s, tkSign(0, s), tkSign(len(s)+1, s))
	}
	// The longer first, from the left.
	checkTokens(t, "===", tkSign(0, "=="), tkSign(2, "="))
	checkTokens(t, "====", tkSign(0, "=="), tkSign(2, "=="))
	checkTokens(t, "= =", tkSign(0, "="), tkSign(2, "="))
	checkTokens(t, "<==", tkSign(0, "<="), tkSign(2, "="))
	checkTokens(t, "=<=>", tkSign(0, "="), tkSign(1, "<="), tkSign(3, ">"))
	checkTokens(t, "!!=", tkSign(0, "!"), tkSign(1, "!="))
	checkTokens(t, "!~~", tkSign(0, "!~"), tkSign(2, "~"))
	checkTokens(t, "~!", tkSign(0, "~"), tkSign(1, "!"))
	checkTokens(t, "! ~", tkSign(0, "!"), tkSign(2, "~"))
	checkTokens(t, "++=", tkSign(0, "+"), tkSign(1, "+="))
	checkTokens(t, "-=", tkSign(0, "-"), tkSign(1, "="))
	checkTokens(t, "&&&&", tkSign(0, "&&"), tkSign(2, "&&"))
	checkTokens(t, "=~", tkSign(0, "="), tkSign(1, "~"))
	// Half of one alone is none.
	for _, s := range []string{"&", "|", "&|", "|&", "& &", "| |", "&\n&", "&#&"} {
		checkNoTokens(t, s, 0)
		checkNoTokens(t, "x"+s, 1)
		checkNoTokens(t, "&&"+s, 2)
		checkNoTokens(t, "||"+s, 2)
	}
}

func TestTokenSignsEachThree(t *testing.T) {
	eachText("(){}[],;=<>!~+-*/%$&|x", 3, func(s string) { checkByShape(t, s) })
}

func TestTokenGaps(t *testing.T) {
	for _, gap := range []string{" ", "\n", "  ", "\n\n", " \n ", "#\n", "# a\n", "## a # b\n", "#\"\n", "#/\n", "#@\t\x00\xff\u00e9\n", "#\\\n", "#a\n#b\n", " # a\n # b\n "} {
		checkTokens(t, gap)
		checkTokens(t, gap+gap)
		checkTokens(t, gap+"x"+gap+"y"+gap, tkName(len(gap), "x"), tkName(2*len(gap)+1, "y"))
		checkTokens(t, "="+gap+"=", tkSign(0, "="), tkSign(1+len(gap), "="))
		checkTokens(t, "1"+gap+"2", tkNum(0, "1", one), tkNum(1+len(gap), "2", 2*one))
		checkTokens(t, `"a"`+gap+`"b"`, tkText(0, "a"), tkText(3+len(gap), "b"))
		checkNoTokens(t, gap+"@", len(gap))
		checkNoTokens(t, "x"+gap+"."+gap, 1+len(gap))
	}
	// Up to the end, where no byte 10 is.
	for _, note := range []string{"#", "#a", "# \"", "# /", "#@\t\x00\xff", "#a#", "#\\"} {
		checkTokens(t, note)
		checkTokens(t, "x"+note, tkName(0, "x"))
		checkTokens(t, "x\n "+note, tkName(0, "x"))
		checkTokens(t, note+"\nx", tkName(len(note)+1, "x"))
	}
	// The byte 13 ends no line, and none of these stands between.
	checkTokens(t, "#a\rx\ny", tkName(5, "y"))
	for _, b := range []string{"\t", "\r", "\v", "\f", "\x00", "\u00a0", "\x85", "\u2028"} {
		checkNoTokens(t, b, 0)
		checkNoTokens(t, "x"+b+"y", 1)
		checkNoTokens(t, " \n"+b, 2)
	}
}

// TestTokensWrong: bytes that begin nothing, alone and behind tokens.
func TestTokensWrong(t *testing.T) {
	begins := " \n#/\"" + "(){}[],;=<>!~+-*%$" + allBytes('0', '9') + allBytes('A', 'Z') + allBytes('a', 'z')
	for b := range 256 {
		wrong := string([]byte{byte(b)})
		if strings.Contains(begins, wrong) {
			continue
		}
		checkNoTokens(t, wrong, 0)
		checkNoTokens(t, " \n#"+wrong+"\n"+wrong, 5)
		for _, ahead := range []string{"x ", "1;", `"a"`, "/a/", "x/", ")", "=", "abcdefgh", `"` + "\x80" + `"`} {
			checkNoTokens(t, ahead+wrong, len(ahead))
			checkNoTokens(t, ahead+wrong+" y", len(ahead))
			checkNoTokens(t, ahead+wrong+"@", len(ahead))
			checkNoTokens(t, ahead+wrong+` "`, len(ahead))
		}
	}
	// The first one counts, of whatever kind it is.
	checkNoTokens(t, "x @ abcdefghi", 2)
	checkNoTokens(t, "x abcdefghi @", 2)
	checkNoTokens(t, `( "a `+"\n@", 2)
	checkNoTokens(t, "1 9000001 /", 2)
	checkNoTokens(t, "\u00e9", 0)
	checkNoTokens(t, "x \u00e9", 2)
}

// fill is a source of so many bytes, with more between as often as it goes.
func fill(ahead string, more string, behind string, size int) string {
	room := size - len(ahead) - len(behind)
	return ahead + strings.Repeat(more, room/len(more)) + strings.Repeat(" ", room%len(more)) + behind
}

func TestTokensLimit(t *testing.T) {
	for _, sized := range []func(size int) string{
		func(size int) string { return fill("", " ", "", size) },
		func(size int) string { return fill("", "\n", "", size) },
		func(size int) string { return fill("", " ", "x", size) },
		func(size int) string { return fill("x", " ", "", size) },
		func(size int) string { return fill("#", "x", "", size) },
		func(size int) string { return fill("", "x ", "", size) },
		func(size int) string { return fill("", ";", "", size) },
		func(size int) string { return fill("", "x=1;\n", "", size) },
		func(size int) string { return fill("\"", "x", "\"", size) },
		func(size int) string { return fill("/", "x", "/", size) },
		func(size int) string { return fill("", "0", "7", size) },
	} {
		for _, size := range []int{1998, 1999, 2000} {
			src := sized(size)
			list, bad := impl.Tokens(src)
			want, _ := tokensByShape(src)
			if len(src) != size || bad != -1 || !slices.Equal(list, want) {
				t.Errorf("Tokens(%.40q ..) of %d bytes = %s, %d; want %s, -1", src, len(src), shownTokens(list), bad, shownTokens(want))
			}
		}
		for _, size := range []int{2001, 2002, 4000, 100000} {
			checkNoTokens(t, sized(size), 0)
		}
	}
	// What is none is named first: it counts in a source that is too long too.
	for _, size := range []int{1999, 2000, 2001, 2002, 5000} {
		checkNoTokens(t, fill("@", " ", "", size), 0)
		checkNoTokens(t, fill("x @", " ", "", size), 2)
		checkNoTokens(t, fill("x", " ", "@", size), size-1)
		checkNoTokens(t, fill("", " ", "abcdefghi", size), size-9)
		checkNoTokens(t, fill("x \"", "x", "", size), 2)
		checkNoTokens(t, fill("x=/", "x", "", size), 2)
	}
}

// Each kind of token by a shape, and what stands between them.
var (
	gapShape    = regexp.MustCompile(`^(?:[ \n]|#[^\n]*)*`)
	nameShape   = regexp.MustCompile(`^[A-Za-z]+`)
	digitsShape = regexp.MustCompile(`^[0-9]+(?:\.[0-9]+)?`)
	textShape   = regexp.MustCompile(`^"(?:[^"\\\n]|\\[^\n])*"`)
	rexShape    = regexp.MustCompile(`^/(?:[^/\\\n]|\\[^\n])*/`)
	signShape   = regexp.MustCompile(`^(?:[=!<>+]=|&&|\|\||!~|[(){}\[\],;=<>!~+\-*/%$])`)
	behindShape = regexp.MustCompile(`\\[^\n]`)
	rightName   = regexp.MustCompile(`^[A-Za-z]{1,8}$`)
	rightDigits = regexp.MustCompile(`^[0-9]+(\.[0-9]{1,6})?$`)
)

// tokensByShape is the chapter's words once more, without the limit, by cutting
// the front off again and again.
func tokensByShape(src string) ([]impl.Token, int) {
	var list []impl.Token
	ahead := ""
	for rest := src; ; {
		rest = rest[len(gapShape.FindString(rest)):]
		at := len(src) - len(rest)
		if rest == "" {
			return append(list, tkEnd(at)), -1
		}
		token, size := frontByShape(rest, !strings.Contains(" name number text pattern ) ] ", " "+ahead+" ") || ahead == "")
		if size == 0 {
			return nil, at
		}
		ahead = map[int]string{impl.TkName: "name", impl.TkNum: "number", impl.TkText: "text", impl.TkRex: "pattern", impl.TkSign: token.Text}[token.Kind]
		token.At = at
		list = append(list, token)
		rest = rest[size:]
	}
}

func frontByShape(s string, begins bool) (impl.Token, int) {
	if name := nameShape.FindString(s); rightName.MatchString(name) {
		return tkName(0, name), len(name)
	}
	if digits := digitsShape.FindString(s); rightDigits.MatchString(digits) {
		if number := exactNum(digits); number.lookLike {
			return tkNum(0, digits, number.n), len(digits)
		}
	}
	if text := textShape.FindString(s); text != "" {
		inner := behindShape.ReplaceAllStringFunc(text[1:len(text)-1], func(both string) string { return both[1:] })
		return tkText(0, inner), len(text)
	}
	if s[0] == '/' && begins {
		rex := rexShape.FindString(s)
		if rex == "" {
			return impl.Token{}, 0
		}
		inner := behindShape.ReplaceAllStringFunc(rex[1:len(rex)-1], func(both string) string {
			if both == `\/` {
				return "/"
			}
			return both
		})
		return tkRex(0, inner), len(rex)
	}
	sign := signShape.FindString(s)
	return tkSign(0, sign), len(sign)
}

// checkByShape holds what is told of a source against the shapes.
func checkByShape(t *testing.T, src string) {
	t.Helper()
	want, place := tokensByShape(src)
	if place >= 0 {
		checkNoTokens(t, src, place)
		return
	}
	checkTokens(t, src, want[:len(want)-1]...)
	checkBegins(t, src)
}

// checkBegins is promise 7: each token begins where it is told, one behind the
// other, with nothing around it but what stands between.
func checkBegins(t *testing.T, src string) {
	t.Helper()
	list, _ := impl.Tokens(src)
	from := 0
	for i, token := range list {
		if token.At < from || token.At > len(src) || !onlyGap(src[from:token.At]) {
			t.Errorf("Tokens(%.80q): token %d, %v, does not begin where the one ahead of it ends, %d, and what is between", src, i, token, from)
			return
		}
		size := sizeThere(src[token.At:], token)
		if size < 0 {
			t.Errorf("Tokens(%.80q): the bytes of token %d, %v, are not at its place", src, i, token)
			return
		}
		from = token.At + size
		if (token.Kind == impl.TkEnd) != (i == len(list)-1) {
			t.Errorf("Tokens(%.80q): token %d of %d is %v", src, i, len(list), token)
		}
	}
	if len(list) == 0 || list[len(list)-1] != tkEnd(len(src)) {
		t.Errorf("Tokens(%.80q) does not end with TkEnd at the end", src)
	}
}

func onlyGap(s string) bool { return len(gapShape.FindString(s)) == len(s) }

// sizeThere is how many bytes a token has that s begins with; -1 where it does
// not begin so.
func sizeThere(s string, token impl.Token) int {
	switch token.Kind {
	case impl.TkText:
		return sizeEnclosed(s, token.Text, `"`)
	case impl.TkRex:
		return sizeEnclosed(s, token.Text, "/")
	}
	if !strings.HasPrefix(s, token.Text) {
		return -1
	}
	return len(token.Text)
}

// sizeEnclosed goes over s and over what stands in it, in brackets, together.
func sizeEnclosed(s string, inner string, mark string) int {
	behind, ok := strings.CutPrefix(s, mark)
	for ok && inner != "" {
		same := strings.HasPrefix(behind, inner[:1])
		if !same || inner[0] == '\\' && mark == `"` {
			behind, ok = strings.CutPrefix(behind, `\`)
		}
		if ok {
			behind, ok = strings.CutPrefix(behind, inner[:1])
		}
		inner = inner[1:]
	}
	if !ok || !strings.HasPrefix(behind, mark) {
		return -1
	}
	return len(s) - len(behind) + 1
}

func TestTokensEachText(t *testing.T) {
	eachText("a1.\"\\/ \n#)=@", 5, func(s string) { checkByShape(t, s) })
	eachText("\"\\/\n#x", 7, func(s string) { checkByShape(t, s) })
	eachText("9.0a", 6, func(s string) { checkByShape(t, s) })
}

func TestTokensEachTwoBytes(t *testing.T) {
	eachText(allBytes(0, 255), 2, func(s string) { checkByShape(t, s) })
}

func TestTokensByChance(t *testing.T) {
	pieces := []string{
		"x", "name", "abcdefgh", "abcdefghi", "print", "NR", "1", "2.5", "0", "9000000", "9000001", "1.123456", "1.1234567", ".", "..",
		`"a"`, `""`, `"\""`, `"\\"`, `"`, `\`, "/a/", "//", `/\//`, `/\\/`, "/", "/", "\n", "\n", " ", " ", "#", "# a\n", "\t", "\x00", "\xff", "\u00e9",
	}
	pieces = append(append(pieces, longSigns...), shortSigns...)
	pieces = append(pieces, shortSigns...)
	chance := rand.New(rand.NewSource(7))
	right := 0
	for range 100000 {
		src := ""
		for range chance.Intn(12) {
			src += pieces[chance.Intn(len(pieces))]
		}
		checkByShape(t, src)
		if _, bad := tokensByShape(src); bad == -1 {
			right++
		}
	}
	if right < 10000 {
		t.Errorf("only %d of the sources are right", right)
	}
	for range 20000 {
		checkByShape(t, fewBytes(chance, "ab19.\"\"\\//  \n#)](=!<&|+", 60))
		checkByShape(t, fewBytes(chance, allBytes(0, 255), 20))
	}
}

// TestTokensBeginWhereTold puts tokens together and asks for each one at the
// place where it was put.
func TestTokensBeginWhereTold(t *testing.T) {
	words := map[string]impl.Token{
		"x": tkName(0, "x"), "while": tkName(0, "while"), "abcdefgh": tkName(0, "abcdefgh"), "3": tkNum(0, "3", 3*one), "0.5": tkNum(0, "0.5", 500000), "9000000": tkNum(0, "9000000", top),
		`"a # \" b"`: tkText(0, `a # " b`), `""`: tkText(0, ""), `"\\"`: tkText(0, `\`), `/[\/"#]\./`: tkRex(0, `[/"#]\.`), "//": tkRex(0, ""), `/ a /`: tkRex(0, " a "),
	}
	for _, s := range append(slices.Clone(longSigns), shortSigns...) {
		words[s] = tkSign(0, s)
	}
	var names []string
	for s := range words {
		names = append(names, s)
	}
	slices.Sort(names)
	gaps := []string{" ", "\n", "  ", "\n\n ", " # x / \" @\n", "#\n"}
	chance := rand.New(rand.NewSource(77))
	for range 5000 {
		src := gaps[chance.Intn(len(gaps))]
		var want []impl.Token
		for range chance.Intn(30) {
			s := names[chance.Intn(len(names))]
			token := words[s]
			begins := len(want) == 0 || want[len(want)-1].Kind == impl.TkSign && !strings.Contains(")]", want[len(want)-1].Text)
			if token.Kind == impl.TkRex && !begins || s == "/" && begins {
				continue
			}
			token.At = len(src)
			want = append(want, token)
			src += s + gaps[chance.Intn(len(gaps))]
		}
		checkTokens(t, src, want...)
		checkBegins(t, src)
	}
}

func TestTokensOwnMemory(t *testing.T) {
	const src = `x = 1 + "a\"b" ~ /c\/d/`
	first, _ := impl.Tokens(src)
	second, _ := impl.Tokens(src)
	kept := slices.Clone(second)
	for i := range first {
		first[i] = impl.Token{Kind: -1, Text: "other", N: -1, At: -1}
	}
	if !slices.Equal(second, kept) {
		t.Error("two answers share their memory")
	}
	if third, bad := impl.Tokens(src); bad != -1 || !slices.Equal(third, kept) {
		t.Errorf("Tokens tells %v, %d behind a change of what it told; want %v", third, bad, kept)
	}
}

func TestKeyword(t *testing.T) {
	for range 2 {
		for _, s := range keywords {
			if !impl.Keyword(s) {
				t.Errorf("%q is no keyword", s)
			}
		}
	}
	check := func(s string) {
		t.Helper()
		if got := impl.Keyword(s); got != slices.Contains(keywords, s) {
			t.Errorf("Keyword(%.80q) = %v", s, got)
		}
	}
	for _, s := range []string{
		"", " ", "x", "n", "nr", "nf", "Nr", "nF", "begin", "Begin", "END", "end", "do", "for", "in", "exit", "function", "return", "getline", "printf", "sub", "gsub", "match", "split", "toupper", "tolower",
		"float", "N", "NRNF", "NR NF", "print ", " print", "print\n", "\x00", "\xff", "print\x00", "\uff4e", strings.Repeat("print", 1000),
	} {
		if impl.Keyword(s) {
			t.Errorf("%.80q is a keyword", s)
		}
	}
	for _, s := range keywords {
		check(strings.ToUpper(s))
		check(strings.ToLower(s))
		for i := range len(s) + 1 {
			check(s[:i])
			check(s[i:])
			check(s[:i] + "x" + s[i:])
			if i < len(s) {
				check(s[:i] + s[i+1:])
				check(s[:i] + "\xff" + s[i+1:])
			}
		}
	}
	eachText("NRFintfelsx", 4, check)
}

// TestKeywordAtOnce: whoever asks first, all are told the same.
func TestKeywordAtOnce(t *testing.T) {
	var all sync.WaitGroup
	wrong := make([]int, 16)
	for i := range wrong {
		all.Go(func() {
			for range 100 {
				for _, s := range keywords {
					if !impl.Keyword(s) || impl.Keyword(s+"x") {
						wrong[i]++
					}
				}
			}
		})
	}
	all.Wait()
	for i, n := range wrong {
		if n > 0 {
			t.Errorf("asker %d was told wrong %d times", i, n)
		}
	}
}
