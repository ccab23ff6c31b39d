package tests

import (
	"math"
	"math/big"
	"testing"

	"loop.example/g00289/impl"
)

const (
	one = impl.One
	top = impl.MaxDec
)

// decCase tells what a function of two numbers must answer at one pair.
type decCase struct {
	a, b, want int
	ok         bool
}

func checkDec(t *testing.T, name string, f func(int, int) (int, bool), cases []decCase) {
	t.Helper()
	for _, c := range cases {
		if got, ok := f(c.a, c.b); got != c.want || ok != c.ok {
			t.Errorf("%s(%d, %d) = %d, %v; want %d, %v", name, c.a, c.b, got, ok, c.want, c.ok)
		}
	}
}

// notRight are numbers that are refused wherever they come in.
var notRight = []int{top + 1, -top - 1, 2 * top, -2 * top, top * one, -top * one, math.MaxInt, math.MaxInt - 1, math.MinInt, math.MinInt + 1}

// spread are right numbers, small, whole, broken, and close to every limit.
func spread() []int {
	amounts := []int{0, 1, 2, 3, 7, 499999, 500000, one - 1, one, one + 1, 1500000, 2500000, 3 * one,
		3000000 - 1, 3000001, 123456789, top / one, top/one - 1, top/one + 1, 1 << 31, 1<<32 - 1, 1 << 32,
		top / 3, top/2 - 1, top / 2, top/2 + 1, top - one, top - 2, top - 1, top}
	list := []int{}
	for _, a := range amounts {
		list = append(list, a)
		if a != 0 {
			list = append(list, -a)
		}
	}
	return list
}

func TestDecConstants(t *testing.T) {
	if impl.One != 1000000 || impl.MaxDec != 9000000000000 {
		t.Error("constants", impl.One, impl.MaxDec)
	}
}

func TestDecOkLimits(t *testing.T) {
	for _, a := range spread() {
		if !impl.DecOk(a) {
			t.Error("refused", a)
		}
	}
	for _, a := range notRight {
		if impl.DecOk(a) {
			t.Error("accepted", a)
		}
	}
}

func TestDecAdd(t *testing.T) {
	checkDec(t, "DecAdd", impl.DecAdd, []decCase{
		{0, 0, 0, true},
		{1500000, 2500000, 4000000, true},
		{1500000, -2500000, -1000000, true},
		{-1, -2, -3, true},
		{top - 1, 1, top, true},
		{top, 0, top, true},
		{top, 1, 0, false},
		{1, top, 0, false},
		{top - 1, 2, 0, false},
		{-top + 1, -1, -top, true},
		{-top, -1, 0, false},
		{-1, -top, 0, false},
		{top / 2, top / 2, top, true},
		{top / 2, top/2 + 1, 0, false},
		{top, top, 0, false},
		{-top, -top, 0, false},
		{top, -top, 0, true},
		{top + 1, -1, 0, false},
		{-1, top + 1, 0, false},
		{-top - 1, 1, 0, false},
		{1, -top - 1, 0, false},
	})
}

func TestDecSub(t *testing.T) {
	checkDec(t, "DecSub", impl.DecSub, []decCase{
		{0, 0, 0, true},
		{4000000, 2500000, 1500000, true},
		{1, 2, -1, true},
		{-1, -3, 2, true},
		{top, 0, top, true},
		{0, top, -top, true},
		{0, -top, top, true},
		{top - 1, -1, top, true},
		{top, -1, 0, false},
		{1, -top, 0, false},
		{-top + 1, 1, -top, true},
		{-top, 1, 0, false},
		{-1, top, 0, false},
		{top, -top, 0, false},
		{-top, top, 0, false},
		{top, top, 0, true},
		{top + 1, 1, 0, false},
		{1, top + 1, 0, false},
		{-top - 1, -1, 0, false},
		{-1, -top - 1, 0, false},
	})
}

func TestDecMul(t *testing.T) {
	checkDec(t, "DecMul", impl.DecMul, []decCase{
		{0, 0, 0, true},
		{0, top, 0, true},
		{-top, 0, 0, true},
		{2500000, 3000000, 7500000, true},
		{2500000, -3000000, -7500000, true},
		{-2500000, -3000000, 7500000, true},
		{one, 123456789, 123456789, true},
		{3, 500000, 1, true},
		{-3, 500000, -1, true},
		{3, -500000, -1, true},
		{-3, -500000, 1, true},
		{1, one - 1, 0, true},
		{-1, one - 1, 0, true},
		{1, -1, 0, true},
		{top, one, top, true},
		{-top, one, -top, true},
		{top, -one, -top, true},
		{top, one + 1, 0, false},
		{-top, one + 1, 0, false},
		{top, -one - 1, 0, false},
		{2 * one, top / 2, top, true},
		{2 * one, top/2 + 1, 0, false},
		{-2 * one, top/2 + 1, 0, false},
		// What is cut away does not count against the limit: a product of 9000000000000.999999
		// millionths is the last that is cut to it, the next one passes it.
		{3188722671, 2822446769, top, true},
		{3188722671, -2822446769, -top, true},
		{1072157000000, 8394293, 0, false},
		{-1072157000000, 8394293, 0, false},
		{one + 1, 8999991000009, top, true},
		{one + 1, 8999991000010, 0, false},
		{-one - 1, 8999991000009, -top, true},
		{-one - 1, 8999991000010, 0, false},
		{3000000000000, 3000000, top, true},
		{3000000000000, 3000001, 0, false},
		{top, top, 0, false},
		{-top, top, 0, false},
		{-top, -top, 0, false},
		{top, 1, 9000000, true},
		{top + 1, 0, 0, false},
		{0, top + 1, 0, false},
		{-top - 1, 0, 0, false},
		{1, -top - 1, 0, false},
		// Products that would wrap round to a number that looks right.
		{1 << 32, 1 << 32, 0, false},
		{1 << 40, 1 << 40, 0, false},
		{-(1 << 40), 1 << 40, 0, false},
	})
}

func TestDecDiv(t *testing.T) {
	checkDec(t, "DecDiv", impl.DecDiv, []decCase{
		{0, 1, 0, true},
		{0, -top, 0, true},
		{7500000, 2500000, 3000000, true},
		{7500000, -2500000, -3000000, true},
		{one, 3 * one, 333333, true},
		{-one, 3 * one, -333333, true},
		{one, -3 * one, -333333, true},
		{-one, -3 * one, 333333, true},
		{2 * one, 3 * one, 666666, true},
		{-2 * one, 3 * one, -666666, true},
		{-1, 2 * one, 0, true},
		{1, -2 * one, 0, true},
		{top, one, top, true},
		{-top, one, -top, true},
		{top, -one, -top, true},
		{top, one - 1, 0, false},
		{-top, one - 1, 0, false},
		{9000000, 1, top, true},
		{9000001, 1, 0, false},
		{-9000000, 1, -top, true},
		{9000001, -1, 0, false},
		// 8999991000000 / 0.999999 is 9000000000000 just; a millionth more passes it by one.
		{8999991000000, one - 1, top, true},
		{8999991000001, one - 1, 0, false},
		{-8999991000000, one - 1, -top, true},
		{-8999991000001, one - 1, 0, false},
		{top, top, one, true},
		{-top, top, -one, true},
		{1, top, 0, true},
		{top, 1, 0, false},
		{0, 0, 0, false},
		{1, 0, 0, false},
		{top, 0, 0, false},
		{-top, 0, 0, false},
		{top + 1, top, 0, false},
		{top, top + 1, 0, false},
		{-top - 1, top, 0, false},
		{0, -top - 1, 0, false},
	})
}

func TestDecInt(t *testing.T) {
	cases := []struct{ a, want int }{
		{0, 0}, {1, 0}, {-1, 0}, {one - 1, 0}, {-one + 1, 0}, {one, one}, {-one, -one},
		{one + 1, one}, {-one - 1, -one}, {2500000, 2000000}, {-2500000, -2000000},
		{2999999, 2000000}, {-2999999, -2000000}, {top, top}, {-top, -top},
		{top - 1, top - one}, {-top + 1, -top + one},
		// Of numbers that are not right the chapter names no other answer.
		{top + 1, top}, {-top - 1, -top}, {math.MaxInt, 9223372036854000000}, {math.MinInt, -9223372036854000000},
	}
	for _, c := range cases {
		if got := impl.DecInt(c.a); got != c.want {
			t.Errorf("DecInt(%d) = %d; want %d", c.a, got, c.want)
		}
	}
}

// TestDecWrongArguments: whatever stands on the other side, one that is not right is refused.
func TestDecWrongArguments(t *testing.T) {
	others := append(spread(), notRight...)
	for name, f := range decFunctions() {
		for _, bad := range notRight {
			for _, other := range others {
				checkDec(t, name, f, []decCase{{bad, other, 0, false}, {other, bad, 0, false}})
			}
		}
	}
}

func decFunctions() map[string]func(int, int) (int, bool) {
	return map[string]func(int, int) (int, bool){
		"DecAdd": impl.DecAdd, "DecSub": impl.DecSub, "DecMul": impl.DecMul, "DecDiv": impl.DecDiv,
	}
}

// exact works an answer out in numbers without a limit; Quo cuts towards 0.
func exact(name string, a int, b int) (int, bool) {
	x, y, unit, z := big.NewInt(int64(a)), big.NewInt(int64(b)), big.NewInt(one), new(big.Int)
	switch name {
	case "DecAdd":
		z.Add(x, y)
	case "DecSub":
		z.Sub(x, y)
	case "DecMul":
		z.Quo(z.Mul(x, y), unit)
	case "DecDiv":
		if b == 0 {
			return 0, false
		}
		z.Quo(z.Mul(x, unit), y)
	}
	if z.CmpAbs(big.NewInt(top)) > 0 {
		return 0, false
	}
	return int(z.Int64()), true
}

func TestDecAgainstExact(t *testing.T) {
	list := spread()
	// A rule that steps through all sizes, so that no pair was picked for its answer.
	for i, step := 0, 1; i < 60; i++ {
		step = step * 7 % (2*top + 1)
		list = append(list, step-top, (step-top)>>(i%40))
	}
	for name, f := range decFunctions() {
		for _, a := range list {
			for _, b := range list {
				want, ok := exact(name, a, b)
				checkDec(t, name, f, []decCase{{a, b, want, ok}})
			}
		}
	}
}

// TestDecTogetherAndAway is promise 1.
func TestDecTogetherAndAway(t *testing.T) {
	for _, a := range spread() {
		for _, b := range spread() {
			if sum, ok := impl.DecAdd(a, b); ok {
				checkDec(t, "DecSub", impl.DecSub, []decCase{{sum, b, a, true}, {sum, a, b, true}})
			}
			if rest, ok := impl.DecSub(a, b); ok {
				checkDec(t, "DecAdd", impl.DecAdd, []decCase{{rest, b, a, true}, {b, rest, a, true}})
			}
		}
	}
}
