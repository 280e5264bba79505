package dist_test

import (
	"math"
	"testing"

	"stepstone/api"
)

// floatOf needs a number whose exponent is not far away.
func floatOf(a api.Dyad) float64 {
	x, _ := ratOf(a).Float64()
	return x
}

// parted is a sum, and how great its parts are: as far as these are off, it may be.
func parted(parts ...float64) (sum, size float64) {
	size = 1
	for _, x := range parts {
		sum += x
		size += math.Abs(x)
	}
	return sum, size
}

// softly is the logarithm of 1 + e to the power of a number.
func softly(a float64) float64 { return max(a, 0) + math.Log1p(math.Exp(-math.Abs(a))) }

// formula is the logarithm of the published density, but for what depends only on numbers, in floats, and how great its parts are. It needs a point inside.
func (c asked) formula(q []api.Dyad) (sum, size float64) {
	x, a, b, k := floatOf(q[0]), floatOf(q[1]), floatOf(q[2]), float64(c.k)
	switch c.name {
	case "normal":
		z := (x - a) / b
		return parted(-z*z/2, -math.Log(b))
	case "lognormal":
		z := (math.Log(x) - a) / b
		return parted(-z*z/2, -math.Log(b), -math.Log(x))
	case "cauchy":
		z := (x - a) / b
		return parted(-math.Log1p(z*z), -math.Log(b))
	case "exponential":
		return parted(math.Log(a), -a*x)
	case "gamma":
		return parted(a*math.Log(b), (a-1)*math.Log(x), -b*x)
	case "beta":
		return parted((a-1)*math.Log(x), (b-1)*math.Log1p(-x))
	case "uniform":
		return parted(-math.Log(b - a))
	case "poisson":
		return parted(k*math.Log(a), -a)
	case "poisson_log":
		return parted(k*a, -math.Exp(a))
	case "bernoulli":
		if c.k == 0 {
			return parted(math.Log1p(-a))
		}
		return parted(math.Log(a))
	}
	if c.k == 0 {
		return parted(-softly(a))
	}
	return parted(-softly(-a))
}

// isNear tells whether bounds are a number, as far as floats tell.
func isNear(a api.Ivl, want, size float64) bool {
	off := func(x api.Dyad) float64 { return math.Abs(floatOf(x) - want) }
	return a.Kind == api.IvSome && max(off(a.Lo), off(a.Hi)) <= 1e-12*size
}

// density is the published one, as it is written down, constants and all.
func (c asked) density(x, a, b float64) float64 {
	k := float64(c.k)
	switch c.name {
	case "normal":
		return math.Exp(-(x-a)*(x-a)/(2*b*b)) / math.Sqrt(2*math.Pi*b*b)
	case "lognormal":
		return math.Exp(-(math.Log(x)-a)*(math.Log(x)-a)/(2*b*b)) / (x * b * math.Sqrt(2*math.Pi))
	case "cauchy":
		return 1 / (math.Pi * b * (1 + (x-a)/b*(x-a)/b))
	case "exponential":
		return a * math.Exp(-a*x)
	case "gamma":
		return math.Pow(b, a) / math.Gamma(a) * math.Pow(x, a-1) * math.Exp(-b*x)
	case "beta":
		return math.Gamma(a+b) / math.Gamma(a) / math.Gamma(b) * math.Pow(x, a-1) * math.Pow(1-x, b-1)
	case "uniform":
		return 1 / (b - a)
	case "bernoulli":
		return math.Pow(a, k) * math.Pow(1-a, 1-k)
	case "bernoulli_logit":
		p := 1 / (1 + math.Exp(-a))
		return math.Pow(p, k) * math.Pow(1-p, 1-k)
	case "poisson":
		return math.Pow(a, k) * math.Exp(-a) / math.Gamma(k+1)
	case "poisson_log":
		return math.Pow(math.Exp(a), k) * math.Exp(-math.Exp(a)) / math.Gamma(k+1)
	}
	panic(c.name + " is no distribution")
}

// constant is what a density has been divided by, and its term has not.
func (c asked) constant(a, b float64) float64 {
	switch c.name {
	case "normal", "lognormal":
		return math.Sqrt(2 * math.Pi)
	case "cauchy":
		return math.Pi
	case "gamma":
		return math.Gamma(a)
	case "beta":
		return math.Gamma(a) * math.Gamma(b) / math.Gamma(a+b)
	case "poisson", "poisson_log":
		return math.Gamma(float64(c.k) + 1)
	}
	return 1
}

// P21.1, P21.2: the published densities, as they are written down, at points where floats have them.
func TestDensities(t *testing.T) {
	m := newMaker(t, 1000)
	x, a, b := must(m.Par()), must(m.Par()), must(m.Par())
	met := map[string]int{}
	for _, c := range rowsOf(x, a, b) {
		if c.k > 1<<30 {
			continue
		}
		i := ask(t, m, c)
		c.freePoints(nums("-7p-2", "-1p-2", "1p-3", "1p-1", "7p-3", "1", "5p-2", "3"), func(q []api.Dyad) {
			if !c.isInside(ratOf(q[0]), ratOf(q[1]), ratOf(q[2])) {
				return
			}
			x, a, b := floatOf(q[0]), floatOf(q[1]), floatOf(q[2])
			want := c.density(x, a, b) * c.constant(a, b)
			if got := known(t, m, i, q, 2); want > 1e-280 && !isNear(got, math.Log(want), 100) {
				t.Errorf("%s at %s: %s, want %v", c.shown(), shownPoint(q), shown(got), math.Log(want))
			}
			met[c.name]++
		})
	}
	for _, name := range append(termNames(), countNames()...) {
		if met[name] < 5 {
			t.Errorf("only %d of %s", met[name], name)
		}
	}
}

// P21.2: all chances of a poisson count, of which each has its constant, add up to 1.
func TestAllChances(t *testing.T) {
	for _, name := range []string{"poisson", "poisson_log"} {
		for _, q := range nums("1p-5", "1", "3p-1", "2") {
			m := newMaker(t, 1000)
			a, sum := must(m.Par()), 0.0
			for k := range int64(100) {
				got := known(t, m, ask(t, m, count(name, k, a)), []api.Dyad{q}, 2)
				sum += math.Exp(floatOf(got.Lo)) / math.Gamma(float64(k)+1)
			}
			if math.Abs(sum-1) > 1e-12 {
				t.Errorf("%s of %s: %v", name, shownNumber(q), sum)
			}
		}
	}
}
