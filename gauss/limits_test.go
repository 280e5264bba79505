package gauss_test

import (
	"fmt"
	"math/big"
	"testing"

	"stepstone/api"
)

// digits are the last n bits of a number, written as 0 and 1.
func digits(n int, x *big.Int) string { return fmt.Sprintf("%0*b", n, x) }

func plus(x *big.Int, n int64) *big.Int { return new(big.Int).Add(x, big.NewInt(n)) }

func scaled(x *big.Int, n int64) *big.Int { return new(big.Int).Mul(x, big.NewInt(n)) }

// wanted is what a call has to tell of a row: an integer by all bits of it, or an error.
type wanted struct {
	row string
	y   *big.Int
	e   api.Errno
}

func (c wanted) holds(t *testing.T, name string, got answer, ahead int) {
	t.Helper()
	want := answer{text(c.y), c.e, ahead + sizeOf(c.row), c.e == api.ErrDry}
	if c.e != api.OK && c.e != api.ErrDry {
		want.read = ahead
	}
	if got != want {
		t.Errorf("%s: %.90s, want %.90s", name, got, want)
	}
}

// P24.1: Slope of the longest numbers: ErrLong for an integer that's too long, once all its bits are read; ErrArg where Decay can't divide; the source is then as it was.
func TestLongestSlopes(t *testing.T) {
	top := near(mostBits, -1)
	zero, one, last := digits(mostBits, big.NewInt(0)), digits(mostBits, big.NewInt(1)), digits(mostBits, plus(top, -1))
	less := near(mostBits-2, 1)
	lessLast := digits(mostBits-1, plus(less, -1))
	power := pow2(mostBits - 1)
	half := digits(mostBits-1, pow2(mostBits-2))
	for i, c := range []struct {
		t *big.Int
		wanted
	}{
		{top, wanted{zero + "11 0", big.NewInt(0), api.OK}},
		{top, wanted{zero + "01 11 0", top, api.OK}},
		{top, wanted{zero + "01 11 1", new(big.Int).Neg(top), api.OK}},
		{top, wanted{zero + "11 1" + zero + "01 11 1", new(big.Int).Neg(top), api.OK}},
		{top, wanted{zero + "01 01 11 0", nil, api.ErrLong}},
		{top, wanted{zero + "01 01 11 1", nil, api.ErrLong}},
		{top, wanted{zero + "11 1" + zero + "01 01 11 1", nil, api.ErrLong}},
		{top, wanted{zero + "01 01 11", nil, api.ErrDry}},
		{top, wanted{one + "1 11 0", big.NewInt(1), api.OK}},
		{top, wanted{one + "1 01 11 0", nil, api.ErrLong}},
		{top, wanted{last + "0", nil, api.ErrArg}},
		{top, wanted{zero + "11 1" + last + "0", nil, api.ErrArg}},
		{top, wanted{last, nil, api.ErrDry}},
		{plus(top, -1), wanted{last + zero + "01 11 0", plus(top, -1), api.OK}},
		{less, wanted{lessLast + "0 1" + lessLast + "0 00 1 11 0", plus(less, -1), api.OK}},
		{less, wanted{lessLast + "0 00 1 01 11 1", plus(scaled(less, -2), 1), api.OK}},
		{less, wanted{lessLast + "0 00 1 01 01 11 1", plus(scaled(less, -3), 1), api.OK}},
		{less, wanted{lessLast + "0 00 1 01 01 01 11 1", nil, api.ErrLong}},
		{less, wanted{lessLast + "0 00 00", nil, api.ErrArg}},
		{power, wanted{half + "0 1" + half + "0 00 1 01 11 0", plus(power, 0).Add(power, pow2(mostBits-2)), api.OK}},
		{power, wanted{half + "0 00 00 1" + half + "0 00 1 01 01 11 0", nil, api.ErrLong}},
	} {
		s, ahead := rowOf(t, c.row)
		c.holds(t, fmt.Sprint("row ", i), slope(t, s, natOf(c.t)), ahead)
	}
}

// P24.1: what layer 6 can't compute for a w, at the lengths from which on it can't: the products of the square, of twice w, of both; only for the integer for which it can't.
func TestLongestBells(t *testing.T) {
	inverse := func(d *big.Int) *big.Rat { return ratio(big.NewInt(1), d) }
	const half = mostBits / 2
	for i, c := range []struct {
		w *big.Rat
		wanted
	}{
		// Of 0, g is 1 by twice d; the product of d's square and 2 has to fit, if d is odd.
		{inverse(near(half-1, -1)), wanted{"11 0 1", big.NewInt(0), api.OK}},
		{inverse(near(half, -1)), wanted{"11 0 1", nil, api.ErrLong}},
		{inverse(near(half, -2)), wanted{"11 0 1", big.NewInt(0), api.OK}},
		{inverse(near(half-1, 0)), wanted{"11 0 1", big.NewInt(0), api.OK}},
		{inverse(near(half, 0)), wanted{"11 0 1", nil, api.ErrLong}},
		{inverse(near(mostBits, -1)), wanted{"11 0 1", nil, api.ErrLong}},
		{inverse(near(mostBits, -1)), wanted{"11", nil, api.ErrDry}},
		{inverse(near(mostBits, -1)), wanted{"11 1 11 1 01 01 11", nil, api.ErrDry}},
		{inverse(near(mostBits, -1)), wanted{"11 1 11 1 01 01 11 1", nil, api.ErrLong}},
		// Of 1, the product of d and the square of d minus 1 has to fit.
		{inverse(near(mostBits/3, 1)), wanted{"01 11 1 11", nil, api.ErrDry}},
		{inverse(near(mostBits/3+1, 1)), wanted{"01 11 1 11", nil, api.ErrLong}},
		// An integer that's drawn first, and begins again, hides what can't be computed of the next.
		{inverse(near(mostBits/3+1, 1)), wanted{"11 1 11 1 11 0 1", big.NewInt(0), api.OK}},
	} {
		s, ahead := rowOf(t, c.row)
		c.holds(t, fmt.Sprint("row ", i), bell(t, s, fracOf(c.w)), ahead)
	}
}

// P24.1: the same for great w, of which t has half as many bits; what Decay can't divide is ErrArg, but only where it is asked to.
func TestGreatBells(t *testing.T) {
	const half = mostBits / 2
	var (
		fits, edge, long = near(half-1, -1), near(half-1, 3), near(half, -1)
		zero, one        = digits(half/2, big.NewInt(0)), digits(half/2, big.NewInt(1))
	)
	for i, c := range []struct {
		w *big.Int
		wanted
	}{
		{fits, wanted{zero + "11 0 1", big.NewInt(0), api.OK}},
		{fits, wanted{zero + "11 0 00 1" + zero + "11 0 1", big.NewInt(0), api.OK}},
		{fits, wanted{one + "1 11 0 1", big.NewInt(1), api.OK}},
		// The square of the numerator is too long for 5 times t.
		{fits, wanted{zero + "01 01 01 01 01 11 0", nil, api.ErrLong}},
		{fits, wanted{zero + "01 01 01 01 01 11", nil, api.ErrDry}},
		{fits, wanted{zero + "11 0 00 1" + zero + "01 01 01 01 01 11 0", nil, api.ErrLong}},
		// What g is divided by has no room beside its denominator.
		{edge, wanted{one + "1 11 0 1", big.NewInt(1), api.OK}},
		{edge, wanted{one + "1 11 0 00", nil, api.ErrArg}},
		{edge, wanted{one + "1 11 0 0", nil, api.ErrDry}},
		{edge, wanted{zero + "11 0 00 1" + one + "1 11 0 00", nil, api.ErrArg}},
		{long, wanted{zero + "11 0 1", nil, api.ErrLong}},
		{near(mostBits, -1), wanted{zero + zero + "11 0", nil, api.ErrLong}},
		{near(mostBits, -1), wanted{zero + zero + "11", nil, api.ErrDry}},
	} {
		s, ahead := rowOf(t, c.row)
		c.holds(t, fmt.Sprint("row ", i), bell(t, s, fracOf(whole(c.w))), ahead)
	}
}
