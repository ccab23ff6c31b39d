package impl

import "errors"

const (
	One    = 1000000
	MaxDec = 9000000000000
)

// mostProduct is the greatest product, ahead of its cut to millionths, that is
// right behind it. It still fits into 64 bits, so nothing wider is needed.
const mostProduct = MaxDec*One + One - 1

var errNotRight = errors.New("the number is not right")

// dec is a number in millionths. It may hold any int, right or not: each
// method asks first.
type dec int

func (d dec) checked() (dec, error) {
	if d < -MaxDec || d > MaxDec {
		return 0, errNotRight
	}
	return d, nil
}

func (d dec) amount() dec {
	if d < 0 {
		return -d
	}
	return d
}

// checkBoth stands ahead of all arithmetic: of right ones neither a sum nor
// what a product is held against can wrap round.
func (d dec) checkBoth(e dec) error {
	if _, err := d.checked(); err != nil {
		return err
	}
	_, err := e.checked()
	return err
}

func (d dec) plus(e dec) (dec, error) {
	if err := d.checkBoth(e); err != nil {
		return 0, err
	}
	return (d + e).checked()
}

func (d dec) minus(e dec) (dec, error) {
	if err := d.checkBoth(e); err != nil {
		return 0, err
	}
	return (d - e).checked()
}

func (d dec) times(e dec) (dec, error) {
	if err := d.checkBoth(e); err != nil {
		return 0, err
	}
	// Asked by division, as the product itself may not fit into 64 bits.
	if e != 0 && d.amount() > mostProduct/e.amount() {
		return 0, errNotRight
	}
	return d * e / One, nil
}

func (d dec) over(e dec) (dec, error) {
	if err := d.checkBoth(e); err != nil {
		return 0, err
	}
	if e == 0 {
		return 0, errNotRight
	}
	return (d * One / e).checked()
}

func (d dec) whole() dec {
	return d / One * One
}

// told turns what a method answers into what the functions of the chapter do.
func told(d dec, err error) (int, bool) {
	if errors.Is(err, errNotRight) {
		return 0, false
	}
	return int(d), true
}

func DecOk(a int) bool {
	_, ok := told(dec(a).checked())
	return ok
}

func DecAdd(a int, b int) (int, bool) { return told(dec(a).plus(dec(b))) }

func DecSub(a int, b int) (int, bool) { return told(dec(a).minus(dec(b))) }

func DecMul(a int, b int) (int, bool) { return told(dec(a).times(dec(b))) }

func DecDiv(a int, b int) (int, bool) { return told(dec(a).over(dec(b))) }

func DecInt(a int) int { return int(dec(a).whole()) }
