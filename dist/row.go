package dist

import (
	"stepstone/api"
	"stepstone/frac"
	"stepstone/tape"
)

// word is a part of a row. It gets the steps that are not part of a step of the row yet, and returns them with its own in the place of those that it is of.
type word func(m *tape.Maker, open []int) []int

// row adds a step for each word, and returns the last one. As the order of the steps is promised, a row is written in that order: an Op is behind what it is of.
func row(m *tape.Maker, words ...word) int {
	var open []int
	for _, next := range words {
		open = next(m, open)
	}
	return open[0]
}

// at is a step that is there already.
func at(step int) word {
	return func(_ *tape.Maker, open []int) []int { return append(open, step) }
}

func number(n int64) word {
	return func(m *tape.Maker, open []int) []int { return append(open, must(m.Num(frac.Of(n)))) }
}

func add(m *tape.Maker, open []int) []int { return ofTwo(m, api.NdAdd, open) }

func sub(m *tape.Maker, open []int) []int { return ofTwo(m, api.NdSub, open) }

func mul(m *tape.Maker, open []int) []int { return ofTwo(m, api.NdMul, open) }

func div(m *tape.Maker, open []int) []int { return ofTwo(m, api.NdDiv, open) }

func neg(m *tape.Maker, open []int) []int { return ofOne(m, api.NdNeg, open) }

func exp(m *tape.Maker, open []int) []int { return ofOne(m, api.NdExp, open) }

func log(m *tape.Maker, open []int) []int { return ofOne(m, api.NdLog, open) }

func need(m *tape.Maker, open []int) []int { return ofOne(m, api.NdNeed, open) }

func ofOne(m *tape.Maker, op uint8, open []int) []int {
	last := len(open) - 1
	return append(open[:last], must(m.One(op, open[last])))
}

func ofTwo(m *tape.Maker, op uint8, open []int) []int {
	last := len(open) - 1
	return append(open[:last-1], must(m.Two(op, open[last-1], open[last])))
}

// must ends the making, unless the step is there.
func must(step int, e api.Errno) int {
	require(e == api.OK, e)
	return step
}
