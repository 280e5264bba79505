package frac

import (
	"strings"

	"stepstone/api"
	"stepstone/nat"
	"stepstone/zint"
)

// mixed is a natural number, and a rest that is less than the divisor, divided by it.
type mixed struct{ whole, rest, divisor api.Nat }

// magnitude needs a valid number.
func magnitude(a api.Frac) mixed {
	whole, rest, _ := nat.Div(a.N.M, a.D)
	return mixed{whole, rest, a.D}
}

// missing is how far the rest is below the divisor.
func (x mixed) missing() api.Nat { return must(nat.Sub(x.divisor, x.rest)) }

func (x mixed) oneMore() api.Nat { return must(nat.Add(x.whole, nat.Of(1))) }

// plus needs numbers of one divisor. It never computes both rests' sum if that is above the divisor: it may be too long then, while the result is not.
func (x mixed) plus(y mixed) mixed {
	x.whole = must(nat.Add(x.whole, y.whole))
	if missing := y.missing(); nat.Cmp(x.rest, missing) < 0 {
		x.rest = must(nat.Add(x.rest, y.rest))
	} else {
		x.whole, x.rest = x.oneMore(), must(nat.Sub(x.rest, missing))
	}
	return x
}

func (x mixed) tenfold() mixed {
	twice := x.plus(x)
	five := twice.plus(twice).plus(x)
	return five.plus(five)
}

// nearest is the nearest whole number; if two are equally near, the greater one, or the lesser one.
func (x mixed) nearest(greater bool) api.Nat {
	c := nat.Cmp(x.rest, x.missing())
	if c > 0 || c == 0 && greater {
		return x.oneMore()
	}
	return x.whole
}

// placed needs a valid number. Of one that is below 0, up is toward 0: so half goes to the lesser magnitude.
func placed(a api.Frac, n int) string {
	x, below := magnitude(a), zint.Sign(a.N) < 0
	for range n {
		x = x.tenfold()
	}
	units := x.nearest(!below)
	out := withDot(nat.Text(units), n)
	if below && nat.Bits(units) > 0 {
		return "-" + out
	}
	return out
}

// withDot sets a dot in front of the last n digits, and at least one digit in front of it.
func withDot(digits string, n int) string {
	if n == 0 {
		return digits
	}
	digits = strings.Repeat("0", max(0, n+1-len(digits))) + digits
	at := len(digits) - n
	return digits[:at] + "." + digits[at:]
}
