package frac

import (
	"stepstone/api"
	"stepstone/nat"
	"stepstone/zint"
)

const (
	maxBits    = 64 * api.MaxLimbs
	mostPlaces = 1000
)

// caught returns what a computation comes to, or the error by whose number it was ended, without a result.
func caught[T any](compute func() T) (out T, e api.Errno) {
	defer func() {
		if r := recover(); r != nil {
			e = r.(api.Errno)
		}
	}()
	return compute(), api.OK
}

// must ends the computation, unless what it needs is there.
func must[T any](x T, e api.Errno) T {
	if e != api.OK {
		panic(e)
	}
	return x
}

func check(l ...api.Frac) {
	for _, a := range l {
		if !isValid(a) {
			panic(api.ErrArg)
		}
	}
}

func isValid(a api.Frac) bool {
	n := nat.Bits(a.D)
	return 0 < n && n <= maxBits && nat.Bits(a.N.M) <= maxBits
}

func checkDivisor(d api.Int) {
	if zint.Sign(d) == 0 {
		panic(api.ErrArg)
	}
}

func checkDyad(a api.Dyad) {
	if nat.Bits(a.M.M) > maxBits || a.E < -api.MaxExp || a.E > api.MaxExp {
		panic(api.ErrArg)
	}
}

func checkLength(s string) {
	if len(s) > api.MaxNumeral {
		panic(api.ErrLong)
	}
}

func checkPlaces(n int) {
	if n < 0 || n > mostPlaces {
		panic(api.ErrArg)
	}
}
