package elab

import (
	"iter"

	"stepstone/api"
	"stepstone/frac"
	"stepstone/tape"
)

// state is what a program has come to so far: steps, variables, the target, and how many statements were begun.
type state struct {
	*tape.Maker
	vars     []*variable
	target   int64
	runs     int
	blank    []int64         // what all that is declared begins with: rows of which nothing is ever set need no memory of their own
	integers map[int64]int64 // the steps of those that were needed, as the maker is slower to find them
}

// newState needs a new maker: its budget is enough for a step, wherever that is.
func newState(m *tape.Maker) *state {
	s := &state{Maker: m, blank: blank(api.MaxSize), integers: map[int64]int64{}}
	s.target = s.integer(0, 0)
	return s
}

func (s *state) add(v *variable) { s.vars = append(s.vars, v) }

// leave forgets the variable that was added last.
func (s *state) leave() { s.vars = s.vars[:len(s.vars)-1] }

func (s *state) backwards() iter.Seq[*variable] {
	return func(yield func(v *variable) bool) {
		for i := len(s.vars) - 1; i >= 0; i-- {
			if !yield(s.vars[i]) {
				return
			}
		}
	}
}

// find is for a name that exists, as those of a valid program do.
func (s *state) find(name string) *variable {
	for v := range s.backwards() {
		if v.name == name {
			return v
		}
	}
	return nil
}

// begin is for each time that a statement is executed.
func (s *state) begin(at place) {
	at.need(s.runs < api.MaxRuns, api.ErrBudget)
	s.runs++
}

// step is what the maker returned, unless it refused to.
func (at place) step(i int, e api.Errno) int64 {
	at.need(e == api.OK, e)
	return int64(i)
}

func (s *state) number(at place, c api.Frac) int64 { return at.step(s.Num(c)) }

func (s *state) integer(at place, n int64) int64 {
	step, is := s.integers[n]
	if !is {
		step = s.number(at, frac.Of(n))
		s.integers[n] = step
	}
	return step
}

func (s *state) one(at place, op uint8, a int64) int64 { return at.step(s.One(op, int(a))) }

func (s *state) two(at place, op uint8, a, b int64) int64 {
	return at.step(s.Two(op, int(a), int(b)))
}

func (s *state) grow(at place, by int64) { s.target = s.two(at, api.NdAdd, s.target, by) }

// all is what a variable has. Its numbers are steps from then on.
func (s *state) all(at place, v *variable) value {
	if !v.isSet() {
		list := make([]int64, len(v.list))
		for i := range list {
			list[i] = s.element(at, v, i)
		}
		v.list = list
	}
	return v.value
}

// element is an integer, or a step.
func (s *state) element(at place, v *variable, i int) int64 {
	if v.list[i] != unset {
		return v.list[i]
	}
	at.need(v.numbers != nil, api.ErrUnset)
	return s.number(at, v.numbers[i])
}
