package chart

import (
	"stepstone/api"
	"stepstone/frac"
	"stepstone/tape"
)

// steps adds them to a maker. The first error ends that by a panic.
type steps struct{ *tape.Maker }

// link makes a step of the last one.
type link func(last int) int

// check makes nothing: 0 is no Op, so that the maker refuses the step, and tells whether it is a maker.
func (s steps) check(u, lower, upper int) {
	if _, e := s.One(0, u); e == api.ErrNil {
		panic(e)
	}
	if u < 0 || u >= s.Len() || lower < none || upper < none {
		panic(api.ErrArg)
	}
}

// must ends the making, unless the step is there.
func must(i int, e api.Errno) int {
	if e != api.OK {
		panic(e)
	}
	return i
}

func (s steps) num(n int64) int { return must(s.Num(frac.Of(n))) }

func (s steps) two(op uint8, a, b int) int { return must(s.Two(op, a, b)) }

// row makes one step after the other, and returns the last one.
func row(last int, links ...link) int {
	for _, next := range links {
		last = next(last)
	}
	return last
}

func (s steps) of(op uint8) link {
	return func(last int) int { return must(s.One(op, last)) }
}

// after has the last step as its B.
func (s steps) after(op uint8, a int) link {
	return func(last int) int { return s.two(op, a, last) }
}

// ahead has the last step as its A.
func (s steps) ahead(op uint8, b int) link {
	return func(last int) int { return s.two(op, last, b) }
}

func (s steps) twice(last int) int { return s.two(api.NdMul, s.num(2), last) }
