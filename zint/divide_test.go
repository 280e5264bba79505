package zint_test

import (
	"math"
	"math/big"
	"testing"

	"stepstone/api"
	"stepstone/zint"
)

// floorOf is the quotient rounded down, and what is left, by the library's division toward 0.
func floorOf(m, n *big.Int) (q, r *big.Int) {
	q, r = new(big.Int).QuoRem(m, n, new(big.Int))
	if r.Sign() != 0 && r.Sign() != n.Sign() {
		q.Sub(q, big.NewInt(1))
		r.Add(r, n)
	}
	return q, r
}

// halfOf is the greatest integer that is not above m / n + 1 / 2.
func halfOf(m, n *big.Int) *big.Int {
	twice := new(big.Int).Lsh(m, 1)
	q, _ := floorOf(twice.Add(twice, n), new(big.Int).Lsh(n, 1))
	return q
}

func quotients(t *testing.T, a, b api.Int) {
	t.Helper()
	m, n := bigOf(a), bigOf(b)
	q, r, e := zint.Floor(a, b)
	half, halfError := zint.Half(a, b)
	if n.Sign() == 0 {
		fails(t, api.ErrArg, q, e, "Floor", a, b)
		fails(t, api.ErrArg, r, e, "the rest of Floor", a, b)
		fails(t, api.ErrArg, half, halfError, "Half", a, b)
		return
	}
	wantQ, wantR := floorOf(m, n)
	isInt(t, wantQ, q, e, "Floor", a, b)
	isInt(t, wantR, r, e, "the rest of Floor", a, b)
	isInt(t, halfOf(m, n), half, halfError, "Half", a, b)
	restLaws(t, a, b, q, r)
	halfLaws(t, a, b, half)
}

// P4.6: the rest is what the quotient lacks, has the divisor's sign, or is 0, and is nearer to 0.
func restLaws(t *testing.T, a, b, q, r api.Int) {
	t.Helper()
	x := new(big.Int).Mul(bigOf(q), bigOf(b))
	if x.Add(x, bigOf(r)).Cmp(bigOf(a)) != 0 {
		t.Errorf("Floor of %s: the quotient times the divisor, and the rest, are not the number", shown(a, b))
	}
	if s := zint.Sign(r); s != 0 && s != zint.Sign(b) {
		t.Errorf("Floor of %s: the rest has the sign %d", shown(a, b), s)
	}
	if bigOf(r).CmpAbs(bigOf(b)) >= 0 {
		t.Errorf("Floor of %s: the rest is not nearer to 0 than the divisor", shown(a, b))
	}
}

// P4.7: the answer is above the quotient by at most 1/2, and below it by less: then no integer is nearer, and of two that are equally near it is the greater one.
func halfLaws(t *testing.T, a, b, half api.Int) {
	t.Helper()
	off := new(big.Int).Mul(bigOf(half), bigOf(b))
	off.Lsh(off.Sub(off, bigOf(a)), 1)
	n := bigOf(b)
	if n.Sign() < 0 {
		off.Neg(off)
		n.Neg(n)
	}
	if off.Cmp(n) > 0 || off.Cmp(negative(n)) <= 0 {
		t.Errorf("Half of %s = %s is not the integer nearest to the quotient, or the lesser one of two", shown(a, b), shown(half))
	}
}

// P4.3: the chapter's examples, and what stands next to them.
func TestFloorHalf(t *testing.T) {
	for _, c := range []struct{ a, b, q, r, half int64 }{
		{-7, 2, -4, 1, -3}, {7, -2, -4, -1, -3}, {7, 2, 3, 1, 4}, {-7, -2, 3, -1, 4},
		{-8, 3, -3, 1, -3}, {8, 3, 2, 2, 3}, {8, -3, -3, -1, -3}, {-8, -3, 2, -2, 3},
		{-7, 3, -3, 2, -2}, {7, 3, 2, 1, 2}, {7, -3, -3, -2, -2}, {-7, -3, 2, -1, 2},
		{6, 3, 2, 0, 2}, {-6, 3, -2, 0, -2}, {6, -3, -2, 0, -2}, {-6, -3, 2, 0, 2},
		{1, 2, 0, 1, 1}, {-1, 2, -1, 1, 0}, {1, -2, -1, -1, 0}, {-1, -2, 0, -1, 1},
		{1, 3, 0, 1, 0}, {-1, 3, -1, 2, 0}, {1, -3, -1, -2, 0}, {-1, -3, 0, -1, 0},
		{0, 5, 0, 0, 0}, {0, -5, 0, 0, 0}, {5, 1, 5, 0, 5}, {5, -1, -5, 0, -5}, {-5, 1, -5, 0, -5}, {-5, -1, 5, 0, 5},
		{math.MinInt64, 2, math.MinInt64 / 2, 0, math.MinInt64 / 2}, {math.MaxInt64, -2, math.MinInt64 / 2, -1, math.MinInt64/2 + 1},
	} {
		a, b := small(c.a), small(c.b)
		q, r, e := zint.Floor(a, b)
		isInt(t, big.NewInt(c.q), q, e, "Floor", a, b)
		isInt(t, big.NewInt(c.r), r, e, "the rest of Floor", a, b)
		half, e := zint.Half(a, b)
		isInt(t, big.NewInt(c.half), half, e, "Half", a, b)
	}
	q, e := zint.Half(small(math.MinInt64), small(-1))
	isInt(t, pow2(63), q, e, "Half", small(math.MinInt64), small(-1))
}

// P4.3, P4.6, P4.7: quotients of all pairs, also of each way to write 0, as the number and as the divisor.
func TestQuotients(t *testing.T) {
	for a := int64(-40); a <= 40; a++ {
		for b := int64(-12); b <= 12; b++ {
			quotients(t, small(a), small(b))
		}
	}
	l := append(someInts(), zeros()...)
	for _, a := range l {
		for _, b := range l {
			quotients(t, a, b)
		}
	}
	anyPairs(44, 20000, 6, func(a, b api.Int) { quotients(t, a, b) })
	anyPairs(45, 40, 500, func(a, b api.Int) { quotients(t, a, b) })
}

// P4.3: no quotient is too long, whatever its number and its divisor; neither is what it is made from.
func TestQuotientsAtTheLimit(t *testing.T) {
	divisors := append(longest(), big.NewInt(1), big.NewInt(-1), big.NewInt(2), big.NewInt(-2), big.NewInt(3), big.NewInt(-3),
		pow2(maxBits-2), plus(pow2(maxBits-2), 1), pow2(maxBits/2), negative(plus(pow2(maxBits/2), -1)), big.NewInt(0))
	for _, m := range append(divisors, big.NewInt(5)) {
		for _, n := range divisors {
			quotients(t, intOf(m), intOf(n))
		}
	}
}

func shifts(t *testing.T, a api.Int, n int) {
	t.Helper()
	m := bigOf(a)
	got, e := zint.Shl(a, n)
	upToTheLimit(t, new(big.Int).Lsh(m, uint(n)), got, e, "Shl", a, small(int64(n)))
	got, e = zint.Shr(a, n)
	// The library's shift of integers below 0 rounds down too; the other way tells that it does.
	want, _ := floorOf(m, pow2(n))
	isInt(t, want, got, e, "Shr", a, small(int64(n)))
}

// P4.4: shifts of integers of all signs: by 0, by whole limbs, by more than the integer has; down of those below 0 with something lost, and without.
func TestShifts(t *testing.T) {
	for _, c := range []struct{ a, n, want int64 }{
		{-5, 1, -3}, {5, 1, 2}, {-4, 1, -2}, {-4, 2, -1}, {-4, 3, -1}, {-4, 60, -1}, {-5, 0, -5}, {-1, 1, -1}, {-1, 0, -1}, {-1, 1000, -1}, {1, 1, 0}, {-7, 2, -2}, {-8, 2, -2}, {-9, 2, -3}, {0, 5, 0},
	} {
		got, e := zint.Shr(small(c.a), int(c.n))
		isInt(t, big.NewInt(c.want), got, e, "Shr", small(c.a), small(c.n))
	}
	for _, a := range append(someInts(), zeros()...) {
		for _, n := range []int{0, 1, 2, 3, 31, 62, 63, 64, 65, 127, 128, 129, 200, 1000} {
			shifts(t, a, n)
		}
	}
	anyPairs(46, 5000, 6, func(a, b api.Int) { shifts(t, a, 17*len(b.M)+int(bigOf(b).Bit(0))) })
}

// P4.4: shifts out of the limit, of 0, and by as much as there is.
func TestShiftsAtTheLimit(t *testing.T) {
	for _, a := range []api.Int{small(1), small(-1), small(3), small(-3), small(5), intOf(pow2(64)), intOf(negative(pow2(maxBits - 1))), intOf(most()), intOf(negative(most()))} {
		for _, n := range []int{0, 1, 63, 64, maxBits - 66, maxBits - 65, maxBits - 64, maxBits - 3, maxBits - 2, maxBits - 1, maxBits, maxBits + 1} {
			shifts(t, a, n)
		}
		for _, n := range []int{maxBits + 64, 1 << 40, math.MaxInt - 64, math.MaxInt - 1, math.MaxInt} {
			got, e := zint.Shl(a, n)
			fails(t, api.ErrLong, got, e, "Shl", a, small(int64(n)))
			got, e = zint.Shr(a, n)
			isInt(t, big.NewInt(int64(min(0, zint.Sign(a)))), got, e, "Shr", a, small(int64(n)))
		}
	}
	for _, z := range zeros() {
		for _, n := range []int{0, 1, 64, maxBits, math.MaxInt} {
			got, e := zint.Shl(z, n)
			isInt(t, new(big.Int), got, e, "Shl", z)
			got, e = zint.Shr(z, n)
			isInt(t, new(big.Int), got, e, "Shr", z)
		}
	}
}

// P4.4: wrong inputs: shifts below 0, also of 0.
func TestShiftsBelowZero(t *testing.T) {
	for _, a := range append(someInts(), zeros()...) {
		for _, n := range []int{-1, -2, -64, -100000, math.MinInt, math.MinInt + 1} {
			got, e := zint.Shl(a, n)
			fails(t, api.ErrArg, got, e, "Shl", a)
			got, e = zint.Shr(a, n)
			fails(t, api.ErrArg, got, e, "Shr", a)
		}
	}
}
