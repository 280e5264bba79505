package hop_test

import (
	"math"
	"math/big"
	"math/rand/v2"
	"strconv"
	"testing"

	"stepstone/api"
	"stepstone/frog"
	"stepstone/hop"
)

// world is a small set of places, and a tape whose density at each of them is known, up to a factor, within bounds.
type world struct {
	name    string
	t       api.Tape
	f       api.Frog
	box     int
	density func(q []int64) (low, high *big.Rat)
}

// places are all that are in the box.
func (w world) places() [][]int64 {
	all := [][]int64{nil}
	edge := edgeOf(w.f.Grid, w.box).Int64()
	for range w.t.Pars {
		var more [][]int64
		for _, q := range all {
			for n := -edge; n <= edge; n++ {
				more = append(more, append(append([]int64{}, q...), n))
			}
		}
		all = more
	}
	return all
}

// power bounds e to the power of x, which is from -30 to 30, by the series of its magnitude.
func power(x *big.Rat) (low, high *big.Rat) {
	sum, term, g := rat(0, 1), rat(1, 1), new(big.Rat).Abs(x)
	for n := int64(1); n <= 120; n++ {
		sum.Add(sum, term)
		term.Mul(term, g)
		term.Quo(term, rat(n, 1))
	}
	// What is left is below twice the next term.
	above := new(big.Rat).Add(sum, new(big.Rat).Add(term, term))
	if x.Sign() < 0 {
		return above.Inv(above), sum.Inv(sum)
	}
	return sum, above
}

// byHeight is a density whose logarithm is told for a row of numbers, of which each integer is so many grid's units.
func byHeight(grid int, height func(x []*big.Rat) *big.Rat) func(q []int64) (low, high *big.Rat) {
	return func(q []int64) (low, high *big.Rat) {
		var x []*big.Rat
		for _, n := range q {
			x = append(x, rat(n, 1<<grid))
		}
		return power(height(x))
	}
}

// byItself is the parameter, where that is above 0, otherwise there is none.
func byItself(q []int64) (low, high *big.Rat) {
	x := rat(max(q[0], 0), 1)
	return x, x
}

// moving is a way of these, at level 0.
func moving(grid, count int, step *big.Rat, mass ...*big.Rat) api.Frog {
	f := api.Frog{Grid: grid, Count: count, Step: fracOf(step)}
	for _, m := range mass {
		f.Mass = append(f.Mass, fracOf(m))
	}
	return f
}

// square is x times the square of the parameter.
func square(x *big.Rat) api.Tape {
	return tapeOf(1, par(0), two(api.NdMul, 0, 0), numberOf(x), two(api.NdMul, 1, 2))
}

func times(l ...*big.Rat) *big.Rat {
	out := rat(1, 1)
	for _, x := range l {
		out.Mul(out, x)
	}
	return out
}

// worlds are small ones: flat, on a slope, on hills and in a valley, with a wall, of two parameters, on a finer grid, by several steps.
func worlds() []world {
	none := func([]*big.Rat) *big.Rat { return rat(0, 1) }
	itself := func(x []*big.Rat) *big.Rat { return x[0] }
	squared := func(k *big.Rat) func([]*big.Rat) *big.Rat {
		return func(x []*big.Rat) *big.Rat { return times(k, x[0], x[0]) }
	}
	both := func(x []*big.Rat) *big.Rat { return times(rat(-1, 1), x[0], x[1]) }
	wall := tapeOf(1, par(0), one(api.NdLog, 0))
	quarter, half := rat(1, 4), rat(1, 2)
	steep := tapeOf(1, par(0), number(-3, 2), two(api.NdMul, 0, 1))
	return []world{
		{"flat", flat(1), moving(0, 1, quarter, quarter), 2, byHeight(0, none)},
		{"a third", tapeOf(1, number(1, 3)), moving(0, 2, quarter, quarter), 2, byHeight(0, none)},
		{"slope", plain(), moving(0, 1, quarter, quarter), 1, byHeight(0, itself)},
		{"slope, by great steps", plain(), moving(0, 1, rat(1, 1), rat(1, 1)), 2, byHeight(0, itself)},
		{"slope, down", steep, moving(0, 2, half, half), 2, byHeight(0, func(x []*big.Rat) *big.Rat { return times(rat(-3, 2), x[0]) })},
		{"hill", square(rat(-1, 2)), moving(0, 3, half, quarter), 3, byHeight(0, squared(rat(-1, 2)))},
		{"hill on a grid", square(rat(-2, 1)), moving(1, 2, quarter, rat(1, 16)), 1, byHeight(1, squared(rat(-2, 1)))},
		{"valley", square(rat(1, 2)), moving(0, 2, half, quarter), 2, byHeight(0, squared(rat(1, 2)))},
		{"wall", wall, moving(0, 1, quarter, quarter), 3, byItself},
		{"wall on a grid", wall, moving(1, 2, rat(1, 16), rat(1, 16)), 2, byItself},
		{"two", tapeOf(2, par(0), par(1), two(api.NdMul, 0, 1), one(api.NdNeg, 2)), moving(0, 1, half, quarter, half), 1, byHeight(0, both)},
		{"none", flat(0), moving(0, 3, half), 1, byHeight(0, none)},
	}
}

// end is where a transition led, and its verdict.
type end struct {
	place string
	v     api.Verdict
}

// tally is how many of all rows of n bits led where, and how many were not enough.
type tally struct {
	ends  map[end]int64
	dry   int64
	stuck bool
}

// to is how many led to a place.
func (a tally) to(q []int64) (n int64) {
	for _, v := range []api.Verdict{api.VdTaken, api.VdLeft, api.VdOutside} {
		n += a.ends[end{shownInts(ints(q...)), v}]
	}
	return n
}

// bitsOfRow are the n bits of a number.
func bitsOfRow(i int64, n int) string {
	row := strconv.FormatInt(i|1<<n, 2)
	return row[1:]
}

// tallied goes through all rows of n bits, each of them or only one of those that begin with the same bits, as far as these are read.
func (w world) tallied(t *testing.T, q []int64, n int, each bool) tally {
	t.Helper()
	out := tally{ends: map[end]int64{}}
	from := ints(q...)
	for i := int64(0); i < 1<<n; {
		s, ahead := rowOf(t, bitsOfRow(i, n))
		place, v, e := hop.Hop(s, w.t, w.f, w.box, from)
		same := int64(1)
		if !each && e == api.OK {
			same = 1 << (n - (s.Read() - ahead))
		}
		switch e {
		case api.OK:
			out.ends[end{shownInts(place), v}] += same
		case api.ErrDry:
			out.dry++
		case api.ErrStuck:
			out.stuck = true
		default:
			t.Fatalf("%s: error %d", w.name, e)
		}
		i += same
	}
	return out
}

// P27.4: rows of few bits: what begins as a row that was read leads to the same.
func TestBeginnings(t *testing.T) {
	for _, w := range worlds() {
		for _, q := range w.places() {
			for _, n := range []int{0, 1, 5, 8} {
				one, other := w.tallied(t, q, n, true), w.tallied(t, q, n, false)
				if one.dry != other.dry || len(one.ends) != len(other.ends) {
					t.Errorf("%s, from %v by %d bits: %v, and %v", w.name, q, n, one, other)
				}
				for k, c := range one.ends {
					if other.ends[k] != c {
						t.Errorf("%s, from %v by %d bits: %v, and %v", w.name, q, n, one, other)
					}
				}
			}
		}
	}
}

// P27.3, P27.2: all rows of so few bits that they can be counted.
func TestAllRows(t *testing.T) {
	for _, w := range worlds() {
		for _, n := range []int{0, 1, 2, 4, 7, 12} {
			var all []tally
			for _, q := range w.places() {
				all = append(all, w.tallied(t, q, n, false))
			}
			w.holdBalance(t, n, all)
			w.holdChances(t, n, all)
		}
	}
}

// holdBalance asks of any two places whether the number of rows that lead from the one to the other, by the density at the one, is at most the number of those that lead back, and of those that do not suffice there, by that at the other.
func (w world) holdBalance(t *testing.T, n int, all []tally) {
	t.Helper()
	moves := int64(0)
	for i, x := range w.places() {
		low, _ := w.density(x)
		for j, y := range w.places() {
			_, high := w.density(y)
			there, back := all[i].to(y), all[j].to(x)
			if times(low, rat(there, 1)).Cmp(times(high, rat(back+all[j].dry, 1))) > 0 {
				t.Errorf("%s, of 2^%d rows: %d from %v to %v, %d back, %d dry", w.name, n, there, x, y, back, all[j].dry)
			}
			if i != j {
				moves += there
			}
		}
	}
	if n == 12 && w.t.Pars > 0 && moves < 100 {
		t.Errorf("%s: only %d moves", w.name, moves)
	}
}

// holdChances asks whether as many rows lead to a place, with a verdict, as the chances of the steps say, as far as they suffice.
func (w world) holdChances(t *testing.T, n int, all []tally) {
	t.Helper()
	for i, q := range w.places() {
		due, got, sum := w.chances(q), all[i], all[i].dry
		for k, c := range got.ends {
			sum += c
			if due[k] == 0 {
				t.Errorf("%s, from %v to %v: %d of 2^%d, though there's no chance", w.name, q, k, c, n)
			}
		}
		if sum != 1<<n || got.stuck {
			t.Errorf("%s, from %v: %d of 2^%d, stuck: %v", w.name, q, sum, n, got.stuck)
		}
		for k, share := range due {
			want, c := math.Ldexp(share, n), got.ends[k]
			if float64(c) > want*(1+1e-9)+1e-6 || float64(c+got.dry) < want*(1-1e-9)-1e-6 {
				t.Errorf("%s, from %v to %v: %d of 2^%d, %d dry, want %g", w.name, q, k, c, n, got.dry, want)
			}
		}
	}
}

// chances are those of a transition, by floats: of each push, of each number of steps, and of what the gain says.
func (w world) chances(q []int64) map[end]float64 {
	out := map[end]float64{}
	w.eachPush(nil, 1, func(push []int64, chance float64) {
		for n := 1; n <= w.f.Count; n++ {
			f := w.f
			f.Count = n
			to, by, _ := frog.Move(w.t, f, ints(q...), ints(push...))
			share := chance / float64(w.f.Count)
			stays := shownInts(ints(q...))
			if !isInside(to, f.Grid, w.box) {
				out[end{stays, api.VdOutside}] += share
				continue
			}
			gain := w.height(to) - w.height(ints(q...)) + w.weight(ints(push...)) - w.weight(by)
			taken := math.Min(1, math.Exp(gain))
			if math.IsNaN(gain) || math.Abs(gain) < 1e-9 {
				taken = 1
			}
			if math.IsInf(w.height(ints(q...)), -1) || math.IsInf(w.height(to), -1) {
				taken = 0
			}
			out[end{shownInts(to), api.VdTaken}] += share * taken
			out[end{stays, api.VdLeft}] += share * (1 - taken)
		}
	})
	return out
}

// height is the logarithm of the density at a place.
func (w world) height(q []api.Int) float64 {
	var l []int64
	for _, n := range q {
		l = append(l, bigOf(n).Int64())
	}
	low, _ := w.density(l)
	x, _ := low.Float64()
	return math.Log(x)
}

// weight is a push's.
func (w world) weight(p []api.Int) (sum float64) {
	for i, n := range p {
		x, _ := new(big.Float).SetInt(bigOf(n)).Float64()
		sum += x * x / (2 * w.variance(i))
	}
	return sum
}

// variance is that of a push, in the grid's units.
func (w world) variance(i int) float64 {
	x, _ := valid(w.f.Mass[i]).Float64()
	return math.Ldexp(x, 2*w.f.Grid)
}

// eachPush tells each push that is not too far out, and its chance.
func (w world) eachPush(push []int64, chance float64, tell func(push []int64, chance float64)) {
	if len(push) == w.t.Pars {
		tell(push, chance)
		return
	}
	v := w.variance(len(push))
	sum, far := 0.0, int64(3+9*math.Sqrt(v))
	for n := -far; n <= far; n++ {
		sum += math.Exp(-float64(n*n) / (2 * v))
	}
	for n := -far; n <= far; n++ {
		w.eachPush(append(push[:len(push):len(push)], n), chance*math.Exp(-float64(n*n)/(2*v))/sum, tell)
	}
}

// P27.2: of many transitions as many lead to a place, with a verdict, as the chances of the steps say, up to what the number of them allows.
func TestManyHops(t *testing.T) {
	g := rand.New(rand.NewPCG(27, 9))
	for _, w := range worlds() {
		for _, q := range w.places() {
			s, got, sum := bitsOf(g, 30000), map[end]float64{}, 0.0
			for {
				place, v, e := hop.Hop(s, w.t, w.f, w.box, ints(q...))
				if e != api.OK {
					break
				}
				got[end{shownInts(place), v}]++
				sum++
			}
			for k, share := range w.chances(q) {
				if math.Abs(got[k]-share*sum) > 5*math.Sqrt(share*sum)+3 {
					t.Errorf("%s, from %v to %v: %g of %g, want %g", w.name, q, k, got[k], sum, share*sum)
				}
			}
			if sum < 250 {
				t.Errorf("%s, from %v: only %g", w.name, q, sum)
			}
		}
	}
}

// P27.3: what is held against is in balance itself, so that nothing else leads there.
func TestChances(t *testing.T) {
	for _, w := range worlds() {
		due := map[string]map[string]float64{}
		for _, q := range w.places() {
			at := map[string]float64{}
			for k, share := range w.chances(q) {
				at[k.place] += share * math.Exp(w.height(ints(q...)))
			}
			due[shownInts(ints(q...))] = at
		}
		for x, all := range due {
			for y, flow := range all {
				if back := due[y][x]; math.Abs(flow-back) > 1e-9*(flow+back)+1e-12 {
					t.Errorf("%s: %g from %s to %s, %g back", w.name, flow, x, y, back)
				}
			}
		}
	}
}

// P27.4: one source, by other bits behind those that were read of it, and by more, leads to the same.
func TestFurtherBits(t *testing.T) {
	g := rand.New(rand.NewPCG(27, 8))
	for range 300 {
		x, f, box, q := anyTransition(g)
		row := anyRow(g, 300)
		s, ahead := rowOf(t, row)
		var want []answer
		at := q
		for range 6 {
			place, v, e := hop.Hop(s, x, f, box, at)
			if e != api.OK {
				break
			}
			want = append(want, answer{place: shownInts(place), v: v, read: s.Read() - ahead})
			at = place
		}
		if len(want) == 0 {
			continue
		}
		keep := 1 + g.IntN(len(want))
		want, at = want[:keep], q
		other, ahead := rowOf(t, row[:want[keep-1].read]+anyRow(g, g.IntN(300)))
		for _, w := range want {
			place, v, e := hop.Hop(other, x, f, box, at)
			got := answer{place: shownInts(place), v: v, e: e, read: other.Read() - ahead}
			if got != w {
				t.Fatalf("%s, %s, box %d, from %s: %+v, and %+v by other bits behind", shownTape(x), shownWay(f), box, shownInts(at), w, got)
			}
			at = place
		}
	}
}
