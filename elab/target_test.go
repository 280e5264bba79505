package elab_test

import (
	"math"
	"testing"

	"stepstone/api"
)

// The published logarithms of the densities.
func normal(x, m, s float64) float64 {
	return -(x-m)*(x-m)/(2*s*s) - math.Log(s) - math.Log(2*math.Pi)/2
}

func lognormal(x, m, s float64) float64 { return normal(math.Log(x), m, s) - math.Log(x) }

func cauchy(x, m, s float64) float64 { return -math.Log(math.Pi * s * (1 + (x-m)*(x-m)/(s*s))) }

func exponential(x, a float64) float64 { return math.Log(a) - a*x }

func gamma(x, a, b float64) float64 {
	l, _ := math.Lgamma(a)
	return a*math.Log(b) - l + (a-1)*math.Log(x) - b*x
}

func beta(x, a, b float64) float64 {
	l, _ := math.Lgamma(a)
	m, _ := math.Lgamma(b)
	n, _ := math.Lgamma(a + b)
	return n - l - m + (a-1)*math.Log(x) + (b-1)*math.Log(1-x)
}

func uniform(a, b float64) float64 { return -math.Log(b - a) }

func poisson(k, a float64) float64 {
	l, _ := math.Lgamma(k + 1)
	return k*math.Log(a) - a - l
}

func bernoulli(k, a float64) float64 { return math.Log(k*a + (1-k)*(1-a)) }

func logit(u float64) float64 { return 1 / (1 + math.Exp(-u)) }

// A parameter between bounds, and the logarithm of how fast it grows.
func above(low, u float64) (float64, float64) { return low + math.Exp(u), u }

func below(top, u float64) (float64, float64) { return top - math.Exp(u), u }

func between(low, top, u float64) (float64, float64) {
	p := logit(u)
	return low + (top-low)*p, math.Log((top - low) * p * (1 - p))
}

// posed is a program, and its target by the published formulas, at free numbers.
type posed struct {
	name, src, data string
	pars            int
	target          func(q []float64) float64
}

func posedOnes() []posed {
	return []posed{
		{"a line", "data { int n; vector[n] x; vector[n] y; } parameters { real a; real b; real<lower=0> s; } model { a ~ normal(0, 10); b ~ cauchy(0, 2.5); s ~ exponential(0.5); for (i in 1 : n) { y[i] ~ normal(a + b * x[i], s); } }",
			"n = 3; x = [1, 2, 4]; y = [0.5, 2.5, 3];", 3, func(q []float64) float64 {
				s, out := above(0, q[2])
				out += normal(q[0], 0, 10) + cauchy(q[1], 0, 2.5) + exponential(s, 0.5)
				for i, x := range []float64{1, 2, 4} {
					out += normal([]float64{0.5, 2.5, 3}[i], q[0]+q[1]*x, s)
				}
				return out
			}},
		{"schools", "data { int n; array[n] real y; vector[n] s; } parameters { real m; real<lower=0> t; vector[n] h; } model { t ~ cauchy(0, 5); h ~ normal(m, t); y ~ normal(h, s); }",
			"n = 2; y = [28, 8]; s = [15, 10];", 4, func(q []float64) float64 {
				t, out := above(0, q[1])
				return out + cauchy(t, 0, 5) + normal(q[2], q[0], t) + normal(q[3], q[0], t) + normal(28, q[2], 15) + normal(8, q[3], 10)
			}},
		{"coins", "data { array[3] int k; vector[3] x; } parameters { real<lower=0, upper=1> p; real b; } transformed parameters { vector[3] r = inv_logit(b * x); } model { p ~ beta(2, 3.5); k ~ bernoulli(p); k ~ bernoulli(r); k ~ bernoulli_logit(b * x); }",
			"k = [1, 0, 1]; x = [0.5, -1, 2];", 2, func(q []float64) float64 {
				p, out := between(0, 1, q[0])
				out += beta(p, 2, 3.5)
				for i, k := range []float64{1, 0, 1} {
					out += bernoulli(k, p) + 2*bernoulli(k, logit(q[1]*[]float64{0.5, -1, 2}[i]))
				}
				return out
			}},
		{"counts", "data { array[2] int k; } parameters { vector<lower=0>[2] l; } model { l ~ gamma(2.5, 0.5); k ~ poisson(l); for (i in 1 : 2) { k[i] ~ poisson_log(log(l[i]) + 1); } }",
			"k = [3, 0];", 2, func(q []float64) float64 {
				out := 0.0
				for i, k := range []float64{3, 0} {
					l, j := above(0, q[i])
					out += j + gamma(l, 2.5, 0.5) + poisson(k, l) + poisson(k, l*math.E)
				}
				return out
			}},
		{"bounds", "transformed data { real top = 7 / 2; } parameters { real<upper=top> a; real<lower=-1, upper=top * 2> b; real<lower=2> c; } model { a ~ uniform(-100, 5); b ~ normal(a, 3); c ~ lognormal(b / 10, 0.5); target += -square(a - b) + sqrt(c) * 2 - log(c) / 4; }",
			"", 3, func(q []float64) float64 {
				a, out := below(3.5, q[0])
				b, j := between(-1, 7, q[1])
				c, k := above(2, q[2])
				return out + j + k + uniform(-100, 5) + normal(b, a, 3) + lognormal(c, b/10, 0.5) - (a-b)*(a-b) + 2*math.Sqrt(c) - math.Log(c)/4
			}},
		{"sums", "data { vector[2] y; int n; } transformed data { vector[2] z = y - 2 * y; real s = sum(z) / n; } parameters { vector[2] v; } model { target += dot(v, z) - s * sum(exp(v)); if (n == 3) { target += -dot(v, v); } else { target += v[1]; } for (i in 1 : 2) { for (j in i : 2) { v[i] ~ normal(j * n, i + j); } } }",
			"y = [1.5, -2]; n = 3;", 2, func(q []float64) float64 {
				s := (-1.5 + 2) / 3.0
				out := -1.5*q[0] + 2*q[1] - s*(math.Exp(q[0])+math.Exp(q[1])) - q[0]*q[0] - q[1]*q[1]
				return out + normal(q[0], 3, 2) + normal(q[0], 6, 3) + normal(q[1], 6, 4)
			}},
	}
}

// P2: the target is the sum of the published densities' logarithms, and of how fast the bounded parameters grow, up to what depends on data alone: so at two points it differs as much.
func TestTarget(t *testing.T) {
	for _, c := range posedOnes() {
		x := made(t, c.src, c.data)
		if x.Pars != c.pars {
			t.Errorf("%s: %d parameters", c.name, x.Pars)
			continue
		}
		at := func(q []int64) (float64, float64) {
			v := valueAt(t, x, 2, q...)
			if v.Kind != api.IvSome {
				t.Fatalf("%s at %v: %v", c.name, q, v)
			}
			got, _ := ratOf(v.Lo).Float64()
			var free []float64
			for _, n := range q {
				free = append(free, float64(n)/4)
			}
			return got, c.target(free)
		}
		first, wantFirst := at(make([]int64, c.pars))
		for i := range 20 {
			q := make([]int64, c.pars)
			for j := range q {
				q[j] = int64((i*7+j*11)%13) - 6
			}
			got, want := at(q)
			if d, e := got-first, want-wantFirst; math.Abs(d-e) > 1e-9*(1+math.Abs(d)) {
				t.Errorf("%s at %v: %v more than at 0, want %v", c.name, q, d, e)
			}
		}
	}
}

// P2: there is no value exactly where the target has none.
func TestNoTarget(t *testing.T) {
	for _, c := range []struct {
		src  string
		has  []int64
		none []int64
	}{
		{"parameters { real x; } model { x ~ exponential(1); }", []int64{1, 9}, []int64{0, -1}},
		{"parameters { real x; } model { 1 ~ normal(0, x); }", []int64{1, 9}, []int64{0, -1}},
		{"parameters { real x; } model { target += log(x) + sqrt(5 - x); }", []int64{1, 4}, []int64{0, -1, 5, 6}},
		{"parameters { real x; } model { target += 1 / x; }", []int64{-1, 1}, []int64{0}},
		{"parameters { real x; } model { x ~ uniform(-2, 3); }", []int64{-1, 0, 2}, []int64{-2, 3, -3, 9}},
		{"parameters { real x; } model { 1 ~ bernoulli(x / 4); }", []int64{1, 3}, []int64{0, 4, -1}},
		{"parameters { real x; } model { 2 ~ bernoulli(x / 4); }", nil, []int64{1, 3, 0}},
		{"parameters { real<lower=3, upper=2> x; }", nil, []int64{0, 1}},
		{"parameters { real<lower=2, upper=2> x; }", nil, []int64{0, 1}},
		{"parameters { real x; } transformed parameters { real y = log(x); }", []int64{0, -1, 1}, nil},
		{"parameters { real x; } transformed parameters { real y = log(x); } model { target += 0 * y; }", []int64{1}, []int64{0, -1}},
		{"parameters { real x; } model { if (1 == 2) { target += log(x); } }", []int64{0, -1, 1}, nil},
	} {
		x := made(t, c.src, "")
		for _, q := range c.has {
			if v := valueAt(t, x, 0, q); v.Kind != api.IvSome {
				t.Errorf("%s at %d: %v", c.src, q, v)
			}
		}
		for _, q := range c.none {
			if v := valueAt(t, x, 0, q); v.Kind != api.IvUndef {
				t.Errorf("%s at %d: %v", c.src, q, v)
			}
		}
	}
}
