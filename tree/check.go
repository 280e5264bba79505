package tree

import (
	"math"

	"stepstone/api"
)

// many is for a list that may have any length.
const many = math.MaxInt

func check(parts ...part) api.Errno {
	table := conditions()
	for p := range all(parts...) {
		h := p.head()
		if holds := table[h.kind]; holds == nil || !holds(h) {
			return api.ErrTree
		}
	}
	return api.OK
}

// conditions are what a part of each kind must be by itself: how it is named, and how long its lists are. What is in these is asked by the kinds of those that are in them.
func conditions() map[kind]func(h head) bool {
	has := func(word func(string) bool, least, most counts) func(head) bool {
		return func(h head) bool { return word(h.name) && isBetween(least, h.below, most) }
	}
	pair := has(isEmpty, counts{2}, counts{2})
	return map[kind]func(head) bool{
		{expression, api.ExNum}:   has(isNumeral, counts{}, counts{}),
		{expression, api.ExName}:  has(Name, counts{}, counts{}),
		{expression, api.ExIndex}: has(Name, counts{1}, counts{1}),
		{expression, api.ExCall}:  has(Name, counts{}, counts{many}),
		{expression, api.ExNeg}:   has(isEmpty, counts{1}, counts{1}),
		{expression, api.ExAdd}:   pair,
		{expression, api.ExSub}:   pair,
		{expression, api.ExMul}:   pair,
		{expression, api.ExDiv}:   pair,

		{comparison, api.ExEq}: pair,
		{comparison, api.ExNe}: pair,
		{comparison, api.ExLt}: pair,
		{comparison, api.ExLe}: pair,
		{comparison, api.ExGt}: pair,
		{comparison, api.ExGe}: pair,

		// Kids, Body, Else
		{statement, api.StSet}:   has(Name, counts{1}, counts{2}),
		{statement, api.StAdd}:   has(isEmpty, counts{1}, counts{1}),
		{statement, api.StDist}:  has(Name, counts{1}, counts{many}),
		{statement, api.StFor}:   has(Name, counts{2}, counts{2, many}),
		{statement, api.StIf}:    has(isEmpty, counts{1}, counts{1, many, many}),
		{statement, api.StBlock}: has(isEmpty, counts{}, counts{0, many}),

		// Size, Lower, Upper, Init
		{declaration, api.TyInt}:   has(Name, counts{}, counts{0, 1, 1, 1}),
		{declaration, api.TyReal}:  has(Name, counts{}, counts{0, 1, 1, 1}),
		{declaration, api.TyVec}:   has(Name, counts{1}, counts{1, 1, 1, 1}),
		{declaration, api.TyInts}:  has(Name, counts{1}, counts{1, 1, 1}),
		{declaration, api.TyReals}: has(Name, counts{1}, counts{1, 1, 1}),

		{bare, api.TyInt}:   has(Name, counts{}, counts{0, 1, 1}),
		{bare, api.TyReal}:  has(Name, counts{}, counts{0, 1, 1}),
		{bare, api.TyVec}:   has(Name, counts{1}, counts{1, 1, 1}),
		{bare, api.TyInts}:  has(Name, counts{1}, counts{1, 1, 1}),
		{bare, api.TyReals}: has(Name, counts{1}, counts{1, 1, 1}),

		// Decls, Stmts
		{block, api.BkData}:      has(isEmpty, counts{}, counts{many}),
		{block, api.BkMade}:      has(isEmpty, counts{}, counts{many, many}),
		{block, api.BkPars}:      has(isEmpty, counts{}, counts{many}),
		{block, api.BkTurned}:    has(isEmpty, counts{}, counts{many, many}),
		{block, api.BkModel}:     has(isEmpty, counts{}, counts{0, many}),
		{block, api.BkGenerated}: has(isEmpty, counts{}, counts{many, many}),
		{absent, 0}:              has(isEmpty, counts{}, counts{}),
	}
}

func isBetween(least, n, most counts) bool {
	for i := range n {
		if n[i] < least[i] || n[i] > most[i] {
			return false
		}
	}
	return true
}
