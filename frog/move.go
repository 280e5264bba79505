package frog

import (
	"iter"
	"slices"

	"stepstone/api"
	"stepstone/back"
	"stepstone/fore"
	"stepstone/frac"
	"stepstone/ivl"
	"stepstone/nat"
	"stepstone/zint"
)

// numbers needs a valid tape, a valid way, and an integer for each parameter.
func numbers(t api.Tape, f api.Frog, q []api.Int) []api.Frac {
	box, p := must(fore.Point(Point(q, f.Grid))), must(fore.Bits(f.Level))
	// Where Out is not known, no slope is.
	_, slopes, _ := back.Of(t, box, p)
	var all []api.Frac
	for _, slope := range slopes {
		all = append(all, number(slope, -(2*f.Grid+8)))
	}
	return all
}

// number is a slope's, in units of 2^e; Grid tells 0 also where it can't tell.
func number(slope api.Ivl, e int) api.Frac {
	n, _ := ivl.Grid(slope, e)
	return must(frac.Exact(api.Dyad{M: n, E: e}))
}

// beside tells what is at the same place of two lists that are equally long: of the first one where it is, to be changed.
func beside[A, B any](a []A, b []B) iter.Seq2[*A, B] {
	return func(yield func(*A, B) bool) {
		for i := range a {
			if !yield(&a[i], b[i]) {
				return
			}
		}
	}
}

// mover is a place and a push on their way.
type mover struct {
	t    api.Tape
	f    api.Frog
	q, p []api.Int
	// The numbers of the slopes at q, if they are known: two kicks, one behind the other, need the same ones.
	numbers []api.Frac
	known   bool
}

// moved needs a way that is valid for the tape, and lists for it.
func moved(t api.Tape, f api.Frog, q, p []api.Int) api.State {
	// What is computed in between is to be as long as it is, not as the numbers were written.
	f.Step, f.Mass = must(frac.Norm(f.Step)), each(f.Mass, frac.Norm)
	m := mover{t: t, f: f, q: each(q, zint.Norm), p: each(p, zint.Norm)}
	m.move()
	s := api.State{Q: m.q, P: each(m.p, zint.Neg)}
	if slices.ContainsFunc(s.Q, isLong) || slices.ContainsFunc(s.P, isLong) {
		panic(api.ErrBig)
	}
	return s
}

// each makes a list of what is computed of each of a list's numbers.
func each[T any](l []T, compute func(T) (T, api.Errno)) []T {
	out := make([]T, len(l))
	for x, from := range beside(out, l) {
		*x = must(compute(from))
	}
	return out
}

func isLong(n api.Int) bool { return nat.Bits(n.M) > 64*api.MaxFineLimbs }

func (m *mover) move() {
	steps := [...]func(){m.kick, m.drift, m.kick}
	for range m.f.Count {
		for _, step := range steps {
			step()
		}
	}
}

func (m *mover) kick() {
	if !m.known {
		m.numbers, m.known = numbers(m.t, m.f, m.q), true
	}
	half := must(frac.Div(m.f.Step, frac.Of(2)))
	grid := frac.Of(1 << m.f.Grid)
	for p, x := range beside(m.p, m.numbers) {
		more := must(frac.Mul(must(frac.Mul(half, x)), grid))
		*p = must(zint.Add(*p, must(zint.Half(more.N, api.Int{M: more.D}))))
	}
}

func (m *mover) drift() {
	var by []api.Int
	for p, mass := range beside(m.p, m.f.Mass) {
		way := must(frac.Mul(m.f.Step, api.Frac{N: *p, D: nat.Of(1)}))
		by = append(by, rounded(must(frac.Div(way, mass))))
	}
	for q, n := range beside(m.q, by) {
		*q = must(zint.Add(*q, n))
	}
	m.known = false
}

// rounded is x's magnitude, rounded half up, with x's sign: so that the opposite push does the opposite.
func rounded(x api.Frac) api.Int {
	n := must(zint.Half(api.Int{M: x.N.M}, api.Int{M: x.D}))
	if x.N.Neg {
		return must(zint.Neg(n))
	}
	return n
}
