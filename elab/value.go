package elab

import (
	"iter"
	"math"

	"stepstone/api"
)

// place is where in a source something is evaluated, and fails.
type place int

// need ends the unrolling, unless what it must be is true.
func (at place) need(is bool, e api.Errno) {
	if !is {
		panic(api.Fault{E: e, At: int(at)})
	}
}

// unset is in the place of an element that is not set. No integer of a program and no step is so far from 0.
const unset = math.MinInt64

// value is what an expression is evaluated to: integers, or steps; a scalar's is one. As lists are never written to, values share them.
type value struct {
	isRow bool
	list  []int64
}

func scalar(x int64) value { return value{list: []int64{x}} }

func (v value) only() int64 { return v.list[0] }

// element is one of a row, from 0 on; a scalar stands for as many as there may be.
func (v value) element(i int) int64 {
	if !v.isRow {
		return v.only()
	}
	return v.list[i]
}

// integer is for a result that may be too great.
func (at place) integer(n int64) value {
	at.need(-api.MaxInt <= n && n <= api.MaxInt, api.ErrRange)
	return scalar(n)
}

// pairs produces the elements of two values side by side, a scalar with each of a row's.
func (at place) pairs(a, b value) iter.Seq2[int64, int64] {
	n := len(a.list)
	if b.isRow {
		n = len(b.list)
	}
	at.need(!a.isRow || len(a.list) == n, api.ErrRange)
	return func(yield func(x, y int64) bool) {
		for i := range n {
			if !yield(a.element(i), b.element(i)) {
				return
			}
		}
	}
}
