package tape

import (
	"slices"
	"strings"

	"stepstone/api"
	"stepstone/frac"
)

// Maker: see the chapter. Its row is behind a pointer, so that a copy of the maker can't come apart from it: it has the same row. What no New made has none.
type Maker struct{ *row }

// row is the steps that are made, and where among them each one is.
type row struct {
	budget, pars int
	nodes        []api.Node
	made         map[key]int
}

// key is what a step is: the number as a text, as lists can't be held against each other by a map.
type key struct {
	op     uint8
	a, b   int
	number string
}

func New(budget int) (*Maker, api.Errno) {
	if budget < 1 || budget > api.MaxNodes {
		return nil, api.ErrArg
	}
	return &Maker{&row{budget: budget, made: map[key]int{}}}, api.OK
}

func (m *Maker) isNone() bool { return m == nil || m.row == nil }

func (m *Maker) Len() int {
	if m.isNone() {
		return 0
	}
	return len(m.nodes)
}

func (m *Maker) Num(c api.Frac) (int, api.Errno) {
	if m.isNone() {
		return 0, api.ErrNil
	}
	c, e := frac.Norm(c)
	if e != api.OK {
		return 0, api.ErrArg
	}
	return m.index(api.Node{Op: api.NdNum, C: c}, frac.Text(c))
}

func (m *Maker) Par() (int, api.Errno) {
	if m.isNone() {
		return 0, api.ErrNil
	}
	if m.pars == api.MaxPars {
		return 0, api.ErrBudget
	}
	i, e := m.index(api.Node{Op: api.NdPar, A: m.pars}, "")
	if e == api.OK {
		m.pars++
	}
	return i, e
}

func (m *Maker) One(op uint8, a int) (int, api.Errno) {
	return m.of(fields{a: step}, api.Node{Op: op, A: a})
}

func (m *Maker) Two(op uint8, a, b int) (int, api.Errno) {
	return m.of(fields{a: step, b: step}, api.Node{Op: op, A: a, B: b})
}

// of returns the index of a step whose Op has these fields.
func (m *Maker) of(f fields, n api.Node) (int, api.Errno) {
	switch {
	case m.isNone():
		return 0, api.ErrNil
	case fieldsOf(n.Op) != f || !isStep(n, len(m.nodes), m.pars):
		return 0, api.ErrArg
	}
	return m.index(n, "")
}

// index needs a valid step, and returns where one equal to it is, which is at the end if there was none.
func (r *row) index(n api.Node, number string) (int, api.Errno) {
	k := key{n.Op, n.A, n.B, number}
	if i, is := r.made[k]; is {
		return i, api.OK
	}
	i := len(r.nodes)
	if i == r.budget {
		return 0, api.ErrBudget
	}
	r.made[k] = i
	r.nodes = append(r.nodes, n)
	return i, api.OK
}

func (m *Maker) Tape(out int, tells []api.Tell) (api.Tape, api.Errno) {
	switch {
	case m.isNone():
		return api.Tape{}, api.ErrNil
	case !exist(len(m.nodes), out, tells):
		return api.Tape{}, api.ErrArg
	}
	t := api.Tape{Pars: m.pars, Out: out}
	for _, n := range m.nodes {
		n.C = copied(n.C)
		t.Nodes = append(t.Nodes, n)
	}
	for _, x := range tells {
		x.Name = strings.Clone(x.Name)
		t.Tells = append(t.Tells, x)
	}
	return t, api.OK
}

func copied(c api.Frac) api.Frac {
	return api.Frac{N: api.Int{Neg: c.N.Neg, M: slices.Clone(c.N.M)}, D: slices.Clone(c.D)}
}
