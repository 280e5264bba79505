package gauss

import (
	"iter"

	"stepstone/api"
	"stepstone/bits"
	"stepstone/frac"
	"stepstone/nat"
	"stepstone/zint"
)

// again tells what is drawn, each time anew and without end: who ranges over it leaves it with what is kept.
func again[T any](draw func() T) iter.Seq[T] {
	return func(yield func(T) bool) {
		for yield(draw()) {
		}
	}
}

// must ends the call by the error's number unless there is none.
func must[T any](x T, e api.Errno) T {
	if e != api.OK {
		panic(e)
	}
	return x
}

func slope(s *bits.Source, t api.Nat) (y api.Int) {
	for u := range again(func() api.Nat { return must(s.Below(t)) }) {
		if !must(s.Decay(ratio(u, t))) {
			continue
		}
		v := trues(s)
		minus := must(s.Bit())
		y = api.Int{Neg: minus, M: must(nat.Add(u, must(nat.Mul(t, v))))}
		// 0 would be drawn twice as often, were it kept with either sign.
		if !minus || zint.Sign(y) != 0 {
			break
		}
	}
	return y
}

// trues counts how many Decays of 1 are true, one behind the other.
func trues(s *bits.Source) api.Nat {
	n, one := uint64(0), frac.Of(1)
	for must(s.Decay(one)) {
		n++
	}
	return nat.Of(n)
}

func bell(s *bits.Source, w api.Frac) (y api.Int) {
	t := above(w)
	for y = range again(func() api.Int { return slope(s, t) }) {
		if must(s.Decay(excess(y.M, w, t))) {
			break
		}
	}
	return y
}

// above is one more than the greatest integer whose square is not above w.
func above(w api.Frac) api.Nat {
	whole := must(frac.Floor(w))
	return must(nat.Add(must(nat.Root(whole.M)), nat.Of(1)))
}

// excess is what a bell's chance of y falls by beside a slope's: the square of (y minus w divided by t), divided by twice w.
func excess(y api.Nat, w api.Frac, t api.Nat) api.Frac {
	one := nat.Of(1)
	centre := must(frac.Div(w, ratio(t, one)))
	apart := must(frac.Sub(ratio(y, one), centre))
	square := must(frac.Mul(apart, apart))
	return must(frac.Div(square, must(frac.Mul(frac.Of(2), w))))
}

func ratio(n, d api.Nat) api.Frac { return api.Frac{N: api.Int{M: n}, D: d} }
