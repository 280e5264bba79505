package bind

import (
	"strings"

	"stepstone/api"
	"stepstone/feed"
	"stepstone/frac"
	"stepstone/nat"
	"stepstone/zint"
)

// binder has the data, and computes with what is bound of it.
type binder struct {
	*computer
	data []api.Datum
}

func newBinder(data []api.Datum) *binder { return &binder{newComputer(nil), data} }

// values are those of declarations, in order.
func (b *binder) values(l []api.Decl) []api.Value {
	var out []api.Value
	for _, d := range l {
		v := b.item(d)
		b.needBetween(d, v)
		b.add(v)
		out = append(out, v)
	}
	return out
}

// item is the value of what the data have for a declaration.
func (b *binder) item(d api.Decl) api.Value {
	at, n := place(d.At), b.size(d)
	item, is := feed.Find(b.data, d.Name)
	at.need(is && item.List == isRow(d.Type) && len(item.Nums) == n, api.ErrData)
	v := api.Value{Name: strings.Clone(d.Name), Type: d.Type}
	for _, x := range item.Nums {
		v.Nums = append(v.Nums, at.normal(x))
	}
	if isWhole(d.Type) {
		at.need(item.Whole, api.ErrData)
		v.Ints, v.Nums = at.integers(v.Nums), nil
	}
	return v
}

// size is how many numbers a declaration asks for.
func (b *binder) size(d api.Decl) int {
	for _, e := range d.Size {
		n := b.value(e).Ints[0]
		place(e.At).need(0 <= n && n <= api.MaxSize, api.ErrRange)
		return int(n)
	}
	return 1
}

func (at place) normal(x api.Frac) api.Frac {
	n, e := frac.Norm(x)
	at.need(e == api.OK, api.ErrData)
	return n
}

// integers needs normal numbers.
func (at place) integers(l []api.Frac) []int64 {
	var out []int64
	for _, x := range l {
		n, e := zint.Small(x.N)
		at.need(e == api.OK && fits(n) && nat.Cmp(x.D, nat.Of(1)) == 0, api.ErrData)
		out = append(out, n)
	}
	return out
}

// needBetween computes the upper bound only where nothing is below the lower one.
func (b *binder) needBetween(d api.Decl, v api.Value) {
	at := place(d.At)
	for _, e := range d.Lower {
		at.needNone(v, -1, b.bound(e))
	}
	for _, e := range d.Upper {
		at.needNone(v, 1, b.bound(e))
	}
}

// needNone is for a value that has no element on one side of a bound.
func (at place) needNone(v api.Value, side int, bound api.Frac) {
	for s := range elements(v) {
		at.need(order(s.number(), bound) != side, api.ErrBound)
	}
}

func (b *binder) bound(e api.Expr) api.Frac { return element(b.value(e), 0).number() }
