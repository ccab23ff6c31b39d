package tests

import (
	"math/big"
	"regexp"
	"strings"
	"testing"

	"loop.example/g00289/impl"
)

func TestDecText(t *testing.T) {
	cases := []struct {
		a    int
		want string
	}{
		{0, "0"},
		{one, "1"}, {-one, "-1"}, {7 * one, "7"}, {10 * one, "10"}, {-120 * one, "-120"},
		{2500000, "2.5"}, {-2500000, "-2.5"}, {12345678, "12.345678"}, {-12345678, "-12.345678"},
		// Between -1 and 1.
		{1, "0.000001"}, {-1, "-0.000001"}, {500000, "0.5"}, {-500000, "-0.5"},
		{one - 1, "0.999999"}, {-one + 1, "-0.999999"},
		// Rests with noughts at the end, with noughts ahead, with both, with some between.
		{1100000, "1.1"}, {1120000, "1.12"}, {1123000, "1.123"}, {1123400, "1.1234"}, {1123450, "1.12345"},
		{1000001, "1.000001"}, {1000012, "1.000012"}, {1000123, "1.000123"}, {1001234, "1.001234"},
		{1012345, "1.012345"}, {1000100, "1.0001"}, {-1000100, "-1.0001"}, {1010010, "1.01001"}, {10, "0.00001"},
		// Limits.
		{top, "9000000"}, {-top, "-9000000"}, {top - 1, "8999999.999999"}, {-top + 1, "-8999999.999999"},
		{top + 1, ""}, {-top - 1, ""},
	}
	for _, c := range cases {
		if got := impl.DecText(c.a); got != c.want {
			t.Errorf("DecText(%d) = %q; want %q", c.a, got, c.want)
		}
	}
	for _, a := range notRight {
		if got := impl.DecText(a); got != "" {
			t.Errorf("DecText(%d) = %q; want nothing", a, got)
		}
	}
}

// numCase tells what DecFront and DecLooks must answer at one text.
type numCase struct {
	s        string
	n, size  int
	lookLike bool
}

func checkNum(t *testing.T, c numCase) {
	t.Helper()
	if n, size := impl.DecFront(c.s); n != c.n || size != c.size {
		t.Errorf("DecFront(%.80q) = %d, %d; want %d, %d", c.s, n, size, c.n, c.size)
	}
	want := 0
	if c.lookLike {
		want = c.n
	}
	if n, ok := impl.DecLooks(c.s); n != want || ok != c.lookLike {
		t.Errorf("DecLooks(%.80q) = %d, %v; want %d, %v", c.s, n, ok, want, c.lookLike)
	}
}

func TestDecFrontAndLooks(t *testing.T) {
	long := strings.Repeat("0", 5000)
	for _, c := range []numCase{
		{"0", 0, 1, true}, {"7", 7 * one, 1, true}, {"12.5", 12500000, 4, true}, {"00012.50", 12500000, 8, true},
		{"-12.5", -12500000, 5, true}, {"+12.5", 12500000, 5, true}, {"-0", 0, 2, true}, {"+0.0", 0, 4, true},
		{"0.000001", 1, 8, true}, {"-0.000001", -1, 9, true}, {"-.5", -500000, 3, true}, {"+.05", 50000, 4, true},
		// What stands behind.
		{"12x", 12 * one, 2, false}, {"1 2", one, 1, false}, {"1+2", one, 1, false}, {"1-", one, 1, false},
		{"1.5.2", 1500000, 3, false}, {"1.5x ", 1500000, 3, false}, {"1 \t", one, 1, false}, {"1\n", one, 1, false},
		{"1e3", one, 1, false}, {"0x1f", 0, 1, false}, {"1,5", one, 1, false}, {"1_000", one, 1, false},
		// Blanks ahead and behind; no other white byte is one.
		{" 1", one, 2, true}, {"   -1.5", -1500000, 7, true}, {"1   ", one, 1, true}, {"  +1.25  ", 1250000, 7, true},
		{"\t1", 0, 0, false}, {"\n1", 0, 0, false}, {"1\t", one, 1, false}, {"\u00a01", 0, 0, false}, {"1\u00a0", one, 1, false},
		{"- 1", 0, 0, false}, {"+ 1", 0, 0, false}, {"1 .5", one, 1, false}, {"1. 5", one, 1, false},
		// A byte 46 without digits behind it or ahead of it.
		{"1.", one, 1, false}, {"1. ", one, 1, false}, {"-1.", -one, 2, false}, {"1.x", one, 1, false}, {"1..5", one, 1, false},
		{".5", 500000, 2, true}, {" .5 ", 500000, 3, true}, {"..5", 0, 0, false}, {".", 0, 0, false}, {" . ", 0, 0, false},
		{".x", 0, 0, false}, {"-.", 0, 0, false}, {"+. 5", 0, 0, false},
		// Six digits behind the byte 46, and more.
		{"1.123456", 1123456, 8, true}, {"1.1234567", 1123456, 9, true}, {"1.1234569999", 1123456, 12, true},
		{"-1.1234569", -1123456, 10, true}, {" -12.3456789x", -12345678, 12, false}, {".0000009", 0, 8, true},
		{"-.0000009", 0, 9, true}, {"0.9999999", 999999, 9, true}, {"1.12345", 1123450, 7, true},
		{"1." + long, one, 5002, true}, {"1." + long + "9 ", one, 5003, true}, {"." + strings.Repeat("9", 5000), 999999, 5001, true},
		// Limits: cut first, then asked whether it is right.
		{"9000000", top, 7, true}, {"-9000000", -top, 8, true}, {"9000000.000000", top, 14, true},
		{"9000000.0000009", top, 15, true}, {"-9000000.0000009", -top, 16, true},
		{"9000000.000001", 0, 0, false}, {"-9000000.000001", 0, 0, false}, {"9000000.1", 0, 0, false},
		{"8999999.999999", top - 1, 14, true}, {"8999999.9999999", top - 1, 15, true}, {"-8999999.999999", -top + 1, 15, true},
		{"9000001", 0, 0, false}, {"-9000001", 0, 0, false}, {"9000001x", 0, 0, false}, {"10000000", 0, 0, false},
		{"9000000000000", 0, 0, false}, {"9000000000001", 0, 0, false}, {"9223372036854775807", 0, 0, false},
		{"9223372036854775808", 0, 0, false}, {"18446744073709551616", 0, 0, false}, {"18446744073709551617", 0, 0, false},
		{"18446744073709.551616", 0, 0, false}, {"1" + long, 0, 0, false}, {"-1" + long + ".5", 0, 0, false},
		{long, 0, 5000, true}, {long + "1", one, 5001, true}, {"-" + long + "9000000." + long + "1", -top, 10010, true},
		{strings.Repeat(" ", 5000) + "1" + strings.Repeat(" ", 5000), one, 5001, true},
	} {
		checkNum(t, c)
	}
}

func TestDecNoNumber(t *testing.T) {
	for _, s := range []string{
		"", " ", "    ", "+", "-", " +", " - ", "++1", "--1", "+-1", "-+1", "-+", ".", "x", "x1", " x 1", "-x", "e1",
		"\x00", "\x001", "/", ":", "\xff", "\xff1", "\x80", "-\xff5", ".\xff5", "\u0663", "\u0661\u0662", "\uff11",
		"\u22121", "\u00b2", "inf", "NaN", strings.Repeat("+", 5000), strings.Repeat(" ", 5000), strings.Repeat("x", 5000),
	} {
		checkNum(t, numCase{s, 0, 0, false})
	}
	// Bytes above 127 behind a number are no digits of it and no blanks.
	for _, behind := range []string{"\xff", "\x80", "\xb1", "\u0663", "\uff11", "\ufffd", "\x00"} {
		checkNum(t, numCase{"12" + behind, 12 * one, 2, false})
		checkNum(t, numCase{"1.5" + behind + " ", 1500000, 3, false})
		checkNum(t, numCase{"1." + behind, one, 1, false})
	}
}

var numeralShape = regexp.MustCompile(`^ *([+-]?)([0-9]*)(?:\.([0-9]+))?`)

// exactNum works out what a text must answer by a pattern and numbers without a limit.
func exactNum(s string) numCase {
	part := numeralShape.FindStringSubmatch(s)
	if part == nil || part[2]+part[3] == "" {
		return numCase{s: s}
	}
	rest := (part[3] + "000000")[:6]
	n, ok := new(big.Int).SetString(part[2]+rest, 10)
	if !ok || n.Cmp(big.NewInt(top)) > 0 {
		return numCase{s: s}
	}
	if part[1] == "-" {
		n.Neg(n)
	}
	size := len(part[0])
	return numCase{s, int(n.Int64()), size, strings.Trim(s[size:], " ") == ""}
}

// TestDecEveryShortText asks every text of up to five of these bytes, and what they do around long numbers.
func TestDecEveryShortText(t *testing.T) {
	list := []string{""}
	for from := 0; len(list[from]) < 5; from++ {
		for _, c := range []byte(" +-.09x\xff\xb1") {
			list = append(list, list[from]+string([]byte{c}))
		}
	}
	for _, s := range list {
		checkNum(t, exactNum(s))
		if len(s) < 4 {
			for _, other := range []string{"8999999", "9000000", "0.99999", "000000000000000000001"} {
				checkNum(t, exactNum(other+s))
				checkNum(t, exactNum(s+other))
			}
		}
	}
}

// TestDecShownLooks is promise 2.
func TestDecShownLooks(t *testing.T) {
	list := spread()
	for i, step := 0, 1; i < 2000; i++ {
		step = step * 7 % (2*top + 1)
		list = append(list, step-top, (step-top)>>(i%43), i, -i)
	}
	for _, a := range list {
		s := impl.DecText(a)
		checkNum(t, numCase{s, a, len(s), true})
		checkNum(t, numCase{" " + s + "  ", a, len(s) + 1, true})
		checkNum(t, numCase{s + "x", a, len(s), false})
		if strings.Contains(s, ".") && strings.HasSuffix(s, "0") {
			t.Errorf("DecText(%d) = %q has a nought at its end", a, s)
		}
	}
}
