package dist

import (
	"stepstone/api"
	"stepstone/tape"
)

// distribution makes the row of a distribution's term of some steps, its arguments, and returns the last one.
type distribution func(args []int) int

func byOne(term func(a word) int) distribution {
	return func(args []int) int {
		require(len(args) == 1, api.ErrArg)
		return term(at(args[0]))
	}
}

func byTwo(term func(a, b word) int) distribution {
	return func(args []int) int {
		require(len(args) == 2, api.ErrArg)
		return term(at(args[0]), at(args[1]))
	}
}

// densities are those of x, by their names. A line of a row is a part of the chapter's sum.
func densities(m *tape.Maker, x word) map[string]distribution {
	one, two := number(1), number(2)
	return map[string]distribution{
		"normal": byTwo(func(a, b word) int {
			z := at(row(m, x, a, sub, b, div))
			return row(m, z, z, mul, two, div, neg,
				b, log, sub)
		}),
		"lognormal": byTwo(func(a, b word) int {
			l := at(row(m, x, log))
			z := at(row(m, l, a, sub, b, div))
			return row(m, z, z, mul, two, div, neg,
				b, log, sub,
				l, sub)
		}),
		"cauchy": byTwo(func(a, b word) int {
			z := at(row(m, x, a, sub, b, div))
			return row(m, one, z, z, mul, add, log, neg,
				b, log, sub)
		}),
		"exponential": byOne(func(a word) int {
			return row(m, x, need,
				a, log, a, x, mul, sub, add)
		}),
		"gamma": byTwo(func(a, b word) int {
			return row(m, a, need,
				a, b, log, mul, add,
				a, one, sub, x, log, mul, add,
				b, x, mul, sub)
		}),
		"beta": byTwo(func(a, b word) int {
			return row(m, a, need,
				b, need, add,
				a, one, sub, x, log, mul, add,
				b, one, sub, one, x, sub, log, mul, add)
		}),
		"uniform": byTwo(func(a, b word) int {
			return row(m, x, a, sub, need,
				b, x, sub, need, add,
				b, a, sub, log, sub)
		}),
	}
}

// counts are those of k, by their names.
func counts(m *tape.Maker, k int64) map[string]distribution {
	one := number(1)
	never := func() int { return row(m, number(0), need) }
	return map[string]distribution{
		"bernoulli": byOne(func(a word) int {
			switch k {
			case 1:
				return row(m, a, log, one, a, sub, need, add)
			case 0:
				return row(m, one, a, sub, log, a, need, add)
			}
			return never()
		}),
		"bernoulli_logit": byOne(func(a word) int {
			switch k {
			case 1:
				return row(m, one, a, neg, exp, add, log, neg)
			case 0:
				return row(m, one, a, exp, add, log, neg)
			}
			return never()
		}),
		"poisson": byOne(func(a word) int {
			if k < 0 {
				return never()
			}
			return row(m, number(k), a, log, mul, a, sub)
		}),
		"poisson_log": byOne(func(a word) int {
			if k < 0 {
				return never()
			}
			return row(m, number(k), a, mul, a, exp, sub)
		}),
	}
}
