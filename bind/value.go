package bind

import (
	"iter"
	"slices"
	"strings"

	"stepstone/api"
	"stepstone/frac"
)

func isWhole(t uint8) bool { return t == api.TyInt || t == api.TyInts }

func isRow(t uint8) bool { return t == api.TyVec || t == api.TyInts || t == api.TyReals }

func fits(n int64) bool { return -api.MaxInt <= n && n <= api.MaxInt }

func areValid(l []api.Value) bool {
	for _, v := range l {
		if !hasParts(v) || !all(v.Ints, fits) || !all(v.Nums, isNormal) {
			return false
		}
	}
	return true
}

func all[T any](l []T, is func(x T) bool) bool {
	return !slices.ContainsFunc(l, func(x T) bool { return !is(x) })
}

// hasParts tells whether a value has as many integers, or numbers, as its type, and none of the others.
func hasParts(v api.Value) bool {
	own, others := len(v.Nums), len(v.Ints)
	if isWhole(v.Type) {
		own, others = others, own
	}
	switch v.Type {
	case api.TyInt, api.TyReal:
		return own == 1 && others == 0
	case api.TyVec, api.TyInts, api.TyReals:
		return own <= api.MaxSize && others == 0
	}
	return false
}

func isNormal(x api.Frac) bool {
	n, e := frac.Norm(x)
	return e == api.OK && isSame(n, x)
}

// isSame tells whether two numbers are written in the same way.
func isSame(a, b api.Frac) bool {
	return a.N.Neg == b.N.Neg && slices.Equal(a.N.M, b.N.M) && slices.Equal(a.D, b.D)
}

// copied is a value in new memory, as it is written.
func copied(v api.Value) api.Value {
	out := api.Value{Name: strings.Clone(v.Name), Type: v.Type, Ints: slices.Clone(v.Ints)}
	for _, x := range v.Nums {
		out.Nums = append(out.Nums, api.Frac{N: api.Int{Neg: x.N.Neg, M: slices.Clone(x.N.M)}, D: slices.Clone(x.D)})
	}
	return out
}

// variables are those that have some values.
func variables(l []api.Value) []api.Var {
	var out []api.Var
	for _, v := range l {
		out = append(out, api.Var{Name: v.Name, Type: v.Type})
	}
	return out
}

// size is how many elements there are: of a scalar one.
func size(v api.Value) int { return len(v.Ints) + len(v.Nums) }

// element is one of a row, from 0 on; a scalar stands for as many as there may be.
func element(v api.Value, i int) scalar {
	if !isRow(v.Type) {
		i = 0
	}
	if isWhole(v.Type) {
		return scalar{isInt: true, n: v.Ints[i]}
	}
	return scalar{x: v.Nums[i]}
}

func elements(v api.Value) iter.Seq[scalar] {
	return func(yield func(s scalar) bool) {
		for i := range size(v) {
			if !yield(element(v, i)) {
				return
			}
		}
	}
}
