package ivl_test

import (
	"math/big"
	"strconv"
	"testing"

	"stepstone/api"
)

// value is a number as one of the library's floats, with all its bits.
func value(a api.Dyad) *big.Float {
	x := new(big.Float).SetPrec(uint(max(64, 64*len(a.M.M)))).SetInt(bigOf(a.M))
	return x.SetMantExp(x, a.E)
}

// number is the normal number that a float is.
func number(x *big.Float) api.Dyad {
	bits := int(x.MinPrec())
	m, _ := new(big.Float).SetMantExp(x, bits-x.MantExp(nil)).Int(nil)
	return odd(m, x.MantExp(nil)-bits)
}

func isValid(x *big.Float) bool {
	bits := int(x.MinPrec())
	e := x.MantExp(nil) - bits
	return x.Sign() == 0 || bits <= maxBits && -far <= e && e <= far
}

// sum is exact. It is false if layer 5 has no such sum: as it is not valid, or both are too far apart.
func sum(x, y *big.Float) (*big.Float, bool) {
	if x.Sign() == 0 || y.Sign() == 0 {
		out := new(big.Float).SetPrec(x.Prec() + y.Prec())
		return out.Add(x, y), true
	}
	top := max(x.MantExp(nil), y.MantExp(nil))
	end := min(x.MantExp(nil)-int(x.MinPrec()), y.MantExp(nil)-int(y.MinPrec()))
	out := new(big.Float).SetPrec(uint(top-end+1)).Add(x, y)
	return out, isValid(out) && top-end <= maxBits
}

func difference(x, y *big.Float) (*big.Float, bool) {
	return sum(x, new(big.Float).Neg(y))
}

func product(x, y *big.Float) (*big.Float, bool) {
	out := new(big.Float).SetPrec(x.Prec()+y.Prec()).Mul(x, y)
	return out, isValid(out)
}

func direction(up bool) big.RoundingMode {
	if up {
		return big.ToPositiveInf
	}
	return big.ToNegativeInf
}

func rounded(x *big.Float, p int, up bool) (*big.Float, bool) {
	out := new(big.Float).SetPrec(uint(p)).SetMode(direction(up)).Set(x)
	return out, isValid(out)
}

// quotient needs a y that is not 0.
func quotient(x, y *big.Float, p int, up bool) (*big.Float, bool) {
	out := new(big.Float).SetPrec(uint(p)).SetMode(direction(up)).Quo(x, y)
	return out, isValid(out) && (x.Sign() == 0 || int(y.MinPrec())+p <= maxBits)
}

// bound is one of a result's candidates, and whether layer 5 has it.
type bound struct {
	x  *big.Float
	ok bool
}

func bounded(x *big.Float, ok bool) bound { return bound{x, ok} }

func (b bound) rounded(p int, up bool) bound {
	x, ok := rounded(b.x, p, up)
	return bound{x, ok && b.ok}
}

// extremes are the least and the greatest one; ok tells whether layer 5 has all of them.
func extremes(l ...bound) (least, greatest bound, ok bool) {
	least, greatest, ok = l[0], l[0], true
	for _, b := range l {
		if b.x.Cmp(least.x) < 0 {
			least = b
		}
		if b.x.Cmp(greatest.x) > 0 {
			greatest = b
		}
		ok = ok && b.ok
	}
	return least, greatest, ok
}

// result is what a call is to return: the interval from lo to hi, if layer 5 has both; if it has not all that is on the way to them, it may be IvUnknown too.
type result struct {
	kind   uint8
	lo, hi bound
	ok     bool
}

func (r result) holds(got api.Ivl) bool {
	if r.kind != api.IvSome {
		return same(got, api.Ivl{Kind: r.kind})
	}
	there := r.lo.ok && r.hi.ok
	if there && same(got, some(number(r.lo.x), number(r.hi.x))) {
		return true
	}
	return !(there && r.ok) && same(got, unknown())
}

// span is both bounds of an interval.
type span struct{ lo, hi *big.Float }

func spanOf(a api.Ivl) span { return span{value(a.Lo), value(a.Hi)} }

func (a span) hasZero() bool { return a.lo.Sign() <= 0 && a.hi.Sign() >= 0 }

// isZero tells whether it is from 0 to 0.
func (a span) isZero() bool { return a.lo.Sign() == 0 && a.hi.Sign() == 0 }

func outwards(lo, hi bound, p int, ok bool) result {
	return result{api.IvSome, lo.rounded(p, false), hi.rounded(p, true), ok}
}

func wantSum(a, b span, p int) result {
	return outwards(bounded(sum(a.lo, b.lo)), bounded(sum(a.hi, b.hi)), p, true)
}

func wantDifference(a, b span, p int) result {
	return outwards(bounded(difference(a.lo, b.hi)), bounded(difference(a.hi, b.lo)), p, true)
}

func wantProduct(a, b span, p int) result {
	lo, hi, ok := extremes(bounded(product(a.lo, b.lo)), bounded(product(a.lo, b.hi)), bounded(product(a.hi, b.lo)), bounded(product(a.hi, b.hi)))
	return outwards(lo, hi, p, ok)
}

func wantSquare(a, _ span, p int) result {
	lo, hi, ok := extremes(bounded(product(a.lo, a.lo)), bounded(product(a.hi, a.hi)))
	if a.hasZero() {
		lo = bound{new(big.Float), true}
	}
	return outwards(lo, hi, p, ok)
}

func wantQuotient(a, b span, p int) result {
	switch {
	case b.isZero():
		return result{kind: api.IvUndef}
	case b.hasZero():
		return result{kind: api.IvUnknown}
	}
	four := func(up bool) (bound, bound, bool) {
		at := func(x, y *big.Float) bound { return bounded(quotient(x, y, p, up)) }
		return extremes(at(a.lo, b.lo), at(a.lo, b.hi), at(a.hi, b.lo), at(a.hi, b.hi))
	}
	lo, _, down := four(false)
	_, hi, up := four(true)
	return result{api.IvSome, lo, hi, down && up}
}

func (r result) shown() string {
	if r.kind != api.IvSome || !r.lo.ok || !r.hi.ok {
		return "nothing, with the kind " + strconv.Itoa(int(r.kind))
	}
	return shown(some(number(r.lo.x), number(r.hi.x)))
}

func isResult(t *testing.T, want result, got api.Ivl, what string, p int, of ...api.Ivl) {
	t.Helper()
	if !want.holds(got) {
		t.Errorf("%s of %s to %d bits = %s, want %s", what, shown(of...), p, shown(got), want.shown())
	}
}
