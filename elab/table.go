package elab

import "stepstone/api"

// size is the function that comes to an integer also of a row of steps.
const size = "size"

// key is an operation by its Op, or a function by its name, too.
type key struct {
	op   uint8
	call string
}

func function(name string) key { return key{api.ExCall, name} }

// wholeOperations are evaluated to integers.
func wholeOperations() map[key]compute {
	ofTwo := func(f func(a, b int64) int64) compute {
		return func(at place, kids []value) value { return at.integer(f(kids[0].only(), kids[1].only())) }
	}
	return map[key]compute{
		{op: api.ExNeg}: func(at place, kids []value) value { return at.integer(-kids[0].only()) },
		{op: api.ExAdd}: ofTwo(func(a, b int64) int64 { return a + b }),
		{op: api.ExSub}: ofTwo(func(a, b int64) int64 { return a - b }),
		{op: api.ExMul}: ofTwo(func(a, b int64) int64 { return a * b }),
		function(size):  func(at place, kids []value) value { return scalar(int64(len(kids[0].list))) },
		function("sum"): wholeTotal,
	}
}

// wholeTotal may be further from 0 on the way than an integer can be.
func wholeTotal(at place, kids []value) value {
	var n int64
	for _, x := range kids[0].list {
		n += x
	}
	return at.integer(n)
}

// stepOperations are evaluated to steps.
func (s *state) stepOperations() map[key]compute {
	each := func(op uint8) compute {
		return ofEach(func(at place, x int64) int64 { return s.one(at, op, x) })
	}
	pairs := func(op uint8) compute {
		return ofPairs(func(at place, x, y int64) int64 { return s.two(at, op, x, y) })
	}
	return map[key]compute{
		{op: api.ExNeg}:       each(api.NdNeg),
		{op: api.ExAdd}:       pairs(api.NdAdd),
		{op: api.ExSub}:       pairs(api.NdSub),
		{op: api.ExMul}:       pairs(api.NdMul),
		{op: api.ExDiv}:       pairs(api.NdDiv),
		function("exp"):       each(api.NdExp),
		function("log"):       each(api.NdLog),
		function("sqrt"):      each(api.NdRoot),
		function("square"):    ofEach(func(at place, x int64) int64 { return s.two(at, api.NdMul, x, x) }),
		function("inv_logit"): ofEach(s.logistic),
		function("sum"):       s.total,
		function("dot"):       s.dot,
	}
}

// ofEach is a row, if the kid is one.
func ofEach(f func(at place, x int64) int64) compute {
	return func(at place, kids []value) value {
		out := value{isRow: kids[0].isRow}
		for _, x := range kids[0].list {
			out.list = append(out.list, f(at, x))
		}
		return out
	}
}

// ofPairs is a row, if one of both kids is one.
func ofPairs(f func(at place, x, y int64) int64) compute {
	return func(at place, kids []value) value {
		out := value{isRow: kids[0].isRow || kids[1].isRow}
		for x, y := range at.pairs(kids[0], kids[1]) {
			out.list = append(out.list, f(at, x, y))
		}
		return out
	}
}

func (s *state) logistic(at place, x int64) int64 {
	one := s.integer(at, 1)
	power := s.one(at, api.NdExp, s.one(at, api.NdNeg, x))
	return s.two(at, api.NdDiv, one, s.two(at, api.NdAdd, one, power))
}

func (s *state) total(at place, kids []value) value {
	out := s.integer(at, 0)
	for _, x := range kids[0].list {
		out = s.two(at, api.NdAdd, out, x)
	}
	return scalar(out)
}

// dot fails for rows of other sizes before it makes a step.
func (s *state) dot(at place, kids []value) value {
	pairs := at.pairs(kids[0], kids[1])
	out := s.integer(at, 0)
	for x, y := range pairs {
		out = s.two(at, api.NdAdd, out, s.two(at, api.NdMul, x, y))
	}
	return scalar(out)
}
