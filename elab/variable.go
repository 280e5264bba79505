package elab

import (
	"slices"

	"stepstone/api"
)

// variable has elements: integers, or steps, or what is not set.
type variable struct {
	value
	name    string
	isWhole bool
	numbers []api.Frac // of data: what is in the place of elements that are not set
}

func newVariable(name string, kind uint8, list []int64) *variable {
	isRow := kind != api.TyInt && kind != api.TyReal
	isWhole := kind == api.TyInt || kind == api.TyInts
	return &variable{value: value{isRow, list}, name: name, isWhole: isWhole}
}

// withValue is a variable that has layer 16's value.
func withValue(x api.Value) *variable {
	v := newVariable(x.Name, x.Type, x.Ints)
	if !v.isWhole {
		v.list, v.numbers = blank(len(x.Nums)), x.Nums
	}
	return v
}

// blank has nothing set.
func blank(size int) []int64 { return slices.Repeat([]int64{unset}, size) }

func (v *variable) isSet() bool { return !slices.Contains(v.list, unset) }

// set is for a value that has to have as many elements.
func (v *variable) set(at place, x value) {
	at.need(len(x.list) == len(v.list), api.ErrRange)
	v.list = x.list
}

// index is where the n-th element is. They are counted from 1 on.
func (v *variable) index(at place, n int64) int {
	at.need(1 <= n && n <= int64(len(v.list)), api.ErrRange)
	return int(n - 1)
}

// setElement leaves the list as it is that values may share.
func (v *variable) setElement(i int, x int64) {
	if v.list[i] != x {
		v.list = slices.Clone(v.list)
		v.list[i] = x
	}
}
