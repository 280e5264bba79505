package kind

import (
	"slices"

	"stepstone/api"
)

// types are some of the types: a bit each.
type types uint8

const (
	integer  types = 1 << api.TyInt
	number   types = 1 << api.TyReal
	vector   types = 1 << api.TyVec
	integers types = 1 << api.TyInts
	numbers  types = 1 << api.TyReals

	scalar = integer | number
	row    = vector | integers | numbers
)

func (t types) has(one uint8) bool { return t>>one&1 == 1 }

// rule gives kids of some types a result.
type rule struct {
	result uint8
	kids   []types
}

func (r rule) holds(kids []api.Kind) bool {
	return slices.EqualFunc(r.kids, kids, func(t types, k api.Kind) bool { return t.has(k.Type) })
}

// rules are a row of the chapter's table: those of an operation, or of a function. The first one that holds counts.
type rules struct {
	list      []rule
	isCount   bool // what its kids depend on does not matter
	isInexact bool // its value is not rational, so that data can't have it
}

// kindBy is the kind of what is at a place, by the rules that a table has for it, and by its kids' kinds.
func kindBy[K comparable](table map[K]rules, key K, at int, kids ...api.Kind) api.Kind {
	l := table[key]
	i := slices.IndexFunc(l.list, func(r rule) bool { return r.holds(kids) })
	need(i >= 0, api.ErrType, at)
	return api.Kind{Type: l.list[i].result, Par: !l.isCount && slices.ContainsFunc(kids, isPar)}
}

func isPar(k api.Kind) bool { return k.Par }

// operations are by the expressions' Ops. An ExIndex's rules are about the variable: its kid's kind does not matter for the result's.
func operations() map[uint8]rules {
	ofInts := rule{api.TyInt, []types{integer, integer}}
	ofScalars := rule{api.TyReal, []types{scalar, scalar}}
	ofVectors := rule{api.TyVec, []types{vector, vector}}
	byScalar := rule{api.TyVec, []types{vector, scalar}}
	ofScalar := rule{api.TyVec, []types{scalar, vector}}
	sum := rules{list: []rule{ofInts, ofScalars, ofVectors}}
	return map[uint8]rules{
		api.ExIndex: {list: []rule{{api.TyInt, []types{integers}}, {api.TyReal, []types{vector | numbers}}}},
		api.ExNeg:   {list: []rule{{api.TyInt, []types{integer}}, {api.TyReal, []types{number}}, {api.TyVec, []types{vector}}}},
		api.ExAdd:   sum,
		api.ExSub:   sum,
		api.ExMul:   {list: []rule{ofInts, ofScalars, byScalar, ofScalar}},
		api.ExDiv:   {list: []rule{ofScalars, byScalar}},
	}
}

// functions are by their names.
func functions() map[string]rules {
	each := []rule{{api.TyReal, []types{scalar}}, {api.TyVec, []types{vector}}}
	return map[string]rules{
		"exp":       {list: each, isInexact: true},
		"log":       {list: each, isInexact: true},
		"sqrt":      {list: each, isInexact: true},
		"inv_logit": {list: each, isInexact: true},
		"square":    {list: each},
		"sum":       {list: []rule{{api.TyInt, []types{integers}}, {api.TyReal, []types{vector | numbers}}}},
		"dot":       {list: []rule{{api.TyReal, []types{vector, vector}}}},
		"size":      {list: []rule{{api.TyInt, []types{row}}}, isCount: true},
	}
}

// parts are what a variable of a type may be bounded by, and what its value may be. (A row of scalars has no value by which all of it is set.)
type parts struct{ bounds, value types }

func (p parts) isWhole() bool { return p.bounds == integer }

// declarations are by the variables' types.
func declarations() map[uint8]parts {
	return map[uint8]parts{
		api.TyInt:   {bounds: integer, value: integer},
		api.TyReal:  {bounds: scalar, value: scalar},
		api.TyVec:   {bounds: scalar, value: vector},
		api.TyInts:  {bounds: integer},
		api.TyReals: {bounds: scalar},
	}
}

// distribution has some arguments, of which the first ones are marked.
type distribution struct {
	args, marked int
	isDiscrete   bool
}

// distributions are by their names.
func distributions() map[string]distribution {
	return map[string]distribution{
		"normal":          {args: 2},
		"cauchy":          {args: 2},
		"uniform":         {args: 2},
		"lognormal":       {args: 2},
		"gamma":           {args: 2, marked: 1},
		"beta":            {args: 2, marked: 2},
		"exponential":     {args: 1},
		"bernoulli":       {args: 1, isDiscrete: true},
		"bernoulli_logit": {args: 1, isDiscrete: true},
		"poisson":         {args: 1, isDiscrete: true},
		"poisson_log":     {args: 1, isDiscrete: true},
	}
}

// values are the types of what may have the distribution.
func (d distribution) values() types {
	if d.isDiscrete {
		return integer | integers
	}
	return scalar | vector | numbers
}

// arguments are the types of an argument of what is a row, or not.
func (d distribution) arguments(i int, ofRow bool) types {
	if ofRow && !d.isMarked(i) {
		return scalar | vector | numbers
	}
	return scalar
}

func (d distribution) isMarked(i int) bool { return i < d.marked }
