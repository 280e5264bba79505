package bind

import (
	"iter"

	"stepstone/api"
	"stepstone/frac"
)

// function is what a call comes to, by its kids' values.
type function func(at place, kids []api.Value) api.Value

// functions are by their names: all that have an exact value.
func functions() map[string]function {
	return map[string]function{
		"square": place.square,
		"sum":    place.total,
		"dot":    place.dot,
		"size":   place.count,
	}
}

// needDivisor is for a scalar, also where nothing is there to be divided by it.
func (at place) needDivisor(v api.Value) {
	at.need(frac.Sign(element(v, 0).number()) != 0, api.ErrRange)
}

// pairs produces the elements of two values side by side, a scalar with each of a row's.
func (at place) pairs(a, b api.Value) iter.Seq2[scalar, scalar] {
	n := size(a)
	if isRow(b.Type) {
		n = size(b)
	}
	at.need(!isRow(a.Type) || size(a) == n, api.ErrRange)
	return func(yield func(x, y scalar) bool) {
		for i := range n {
			if !yield(element(a, i), element(b, i)) {
				return
			}
		}
	}
}

// each is a scalar, if both values are, and otherwise a row.
func (at place) each(compute operation, a, b api.Value) api.Value {
	row := api.Value{Type: api.TyVec}
	for x, y := range at.pairs(a, b) {
		s := compute(at, x, y)
		if !isRow(a.Type) && !isRow(b.Type) {
			return s.value()
		}
		row.Nums = append(row.Nums, s.x)
	}
	return row
}

func (at place) square(kids []api.Value) api.Value {
	return at.each(place.exactProduct, kids[0], kids[0])
}

func (at place) total(kids []api.Value) api.Value {
	if isWhole(kids[0].Type) {
		return at.wholeTotal(kids[0])
	}
	out := zero()
	for s := range elements(kids[0]) {
		out = at.sum(out, s)
	}
	return out.value()
}

// wholeTotal may be further from 0 on the way than an integer can be.
func (at place) wholeTotal(v api.Value) api.Value {
	var n int64
	for s := range elements(v) {
		n += s.n
	}
	return at.integer(n).value()
}

func (at place) dot(kids []api.Value) api.Value {
	out := zero()
	for x, y := range at.pairs(kids[0], kids[1]) {
		out = at.sum(out, at.product(x, y))
	}
	return out.value()
}

func (at place) count(kids []api.Value) api.Value { return at.integer(int64(size(kids[0]))).value() }

// zero is the number that is not an integer's.
func zero() scalar { return scalar{x: frac.Of(0)} }
