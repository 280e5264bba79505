package kind_test

import (
	"slices"
	"strings"
	"testing"

	"stepstone/api"
	"stepstone/kind"
)

// published is the chapter's table: how many arguments, how many of them, from the first one on, are marked, and whether it is discrete.
func published() map[string]struct {
	args, marked int
	isDiscrete   bool
} {
	return map[string]struct {
		args, marked int
		isDiscrete   bool
	}{
		"normal": {2, 0, false}, "cauchy": {2, 0, false}, "uniform": {2, 0, false}, "lognormal": {2, 0, false},
		"gamma": {2, 1, false}, "beta": {2, 2, false}, "exponential": {1, 0, false},
		"bernoulli": {1, 0, true}, "bernoulli_logit": {1, 0, true}, "poisson": {1, 0, true}, "poisson_log": {1, 0, true},
	}
}

// P15.3: each distribution, and names that are none.
func TestDiscrete(t *testing.T) {
	if len(published()) != 11 || len(distributions()) != 11 {
		t.Fatal("the table is not whole")
	}
	for _, s := range distributions() {
		want := published()[s]
		if args, discrete, is := kind.Discrete(s); args != want.args || discrete != want.isDiscrete || !is {
			t.Errorf("Discrete(%s) = %d, %t, %t", s, args, discrete, is)
		}
		for _, near := range append(nextTo(s), s+" ", " "+s, s+"\x00", s[1:], s[:len(s)-1], s+"_lpdf") {
			if slices.Contains(distributions(), near) {
				continue
			}
			if args, discrete, is := kind.Discrete(near); args != 0 || discrete || is {
				t.Errorf("Discrete(%q) = %d, %t, %t", near, args, discrete, is)
			}
		}
	}
	for _, s := range append(functions(), "", " ", "x", "flat", "student", "binomial", "poisson_logit", "bernoulli_log", "logit", "_logit", "log", "target", "data", "\xff", strings.Repeat("normal", 10000)) {
		if args, discrete, is := kind.Discrete(s); args != 0 || discrete || is {
			t.Errorf("Discrete(%q) = %d, %t, %t", shown(s), args, discrete, is)
		}
	}
}

// distAtoms are what may have a distribution, or be an argument.
func distAtoms() []atom {
	return []atom{
		{text: "n", ty: api.TyInt}, {text: "1", ty: api.TyInt}, {text: "k[1]", ty: api.TyInt}, {text: "size(v * R)", ty: api.TyInt},
		{text: "r", ty: api.TyReal}, {text: "0.5", ty: api.TyReal}, {text: "exp(r / 2)", ty: api.TyReal},
		{text: "v", ty: api.TyVec}, {text: "k", ty: api.TyInts}, {text: "y", ty: api.TyReals}, {text: "v * size(V)", ty: api.TyVec},
		{text: "R", ty: api.TyReal, par: true}, {text: "V", ty: api.TyVec, par: true}, {text: "Y", ty: api.TyReals, par: true}, {text: "V[1]", ty: api.TyReal, par: true}, {text: "-v * R", ty: api.TyVec, par: true}, {text: "n + R", ty: api.TyReal, par: true},
	}
}

func inPlaces(t *testing.T, s string, e api.Errno) {
	t.Helper()
	s = inBlock(api.BkModel, s)
	if e == api.OK {
		passes(t, strings.Replace(s, "^", "", 1))
		return
	}
	fails(t, e, s)
}

// P15.2: each distribution with so many arguments.
func TestArgumentCount(t *testing.T) {
	for _, d := range distributions() {
		for n := range 6 {
			args := strings.TrimSuffix(strings.Repeat("1, ", n), ", ")
			var e api.Errno
			if n != published()[d].args {
				e = api.ErrType
				// Ahead of what is wrong in the value, and in the arguments.
				inPlaces(t, "^a ~ "+d+"("+strings.ReplaceAll(args, "1", "b")+");", e)
				inPlaces(t, "^1.5 ~ "+d+"("+strings.ReplaceAll(args, "1", "V")+");", e)
			}
			inPlaces(t, "^1 ~ "+d+"("+args+");", e)
			inPlaces(t, "if (n < 1) { } else { for (i in 1:n) { ^i ~ "+d+"("+args+"); } }", e)
		}
	}
}

// P15.2: each distribution of each value.
func TestDistributed(t *testing.T) {
	for _, d := range distributions() {
		p := published()[d]
		args := strings.TrimSuffix(strings.Repeat("1, ", p.args), ", ")
		for _, a := range distAtoms() {
			e := api.OK
			if p.isDiscrete && !isWhole(a.ty) || !p.isDiscrete && a.ty == api.TyInts {
				e = api.ErrType
				inPlaces(t, "^("+a.text+") ~ "+d+"("+strings.ReplaceAll(args, "1", "b")+");", e)
				inPlaces(t, "^("+a.text+") ~ "+d+"("+strings.ReplaceAll(args, "1", "k")+");", e)
			}
			inPlaces(t, "^("+a.text+") ~ "+d+"("+args+");", e)
		}
		inPlaces(t, "(n + ^a) ~ "+d+"("+args+");", api.ErrName)
		inPlaces(t, "^(v * v) ~ "+d+"("+args+");", api.ErrType)
		inPlaces(t, "v[^R] ~ "+d+"("+args+");", api.ErrType)
	}
}

// wantArgument is what an argument of a value has to be.
func wantArgument(a, value atom, isMarked bool) api.Errno {
	switch {
	case a.ty == api.TyInts, !a.isScalar() && (isMarked || value.isScalar()):
		return api.ErrType
	case isMarked && a.par:
		return api.ErrLevel
	}
	return api.OK
}

// P15.2: each distribution of each value, with each argument, and with each two.
func TestArguments(t *testing.T) {
	for _, d := range distributions() {
		p := published()[d]
		for _, value := range distAtoms() {
			if p.isDiscrete && !isWhole(value.ty) || !p.isDiscrete && value.ty == api.TyInts {
				continue
			}
			before := "(" + value.text + ") ~ " + d + "("
			for _, a := range distAtoms() {
				e := wantArgument(a, value, p.marked > 0)
				if p.args == 1 {
					inPlaces(t, before+"^"+a.text+");", e)
					inPlaces(t, before+"^("+a.text+"));", e)
					continue
				}
				for _, b := range distAtoms() {
					second := wantArgument(b, value, p.marked > 1)
					if e != api.OK {
						inPlaces(t, before+"^"+a.text+", "+b.text+");", e)
					} else {
						inPlaces(t, before+a.text+", ^"+b.text+");", second)
					}
				}
			}
		}
	}
}

// P15.2: the block, the name, how many arguments; the value; the arguments, one after the other.
func TestFirstOfDistribution(t *testing.T) {
	for _, block := range []int{api.BkMade, api.BkTurned, api.BkGenerated} {
		for _, s := range []string{"^n ~ normal(0, 1);", "^a ~ f(b);", "^a ~ normal(b, c);", "^n ~ poisson(1);", "^k ~ normal();"} {
			fails(t, api.ErrType, inBlock(block, s), inBlock(block, "{ if (1 < 2) { for (i in 1:2) { "+s+" } } }"))
		}
	}
	for _, d := range distributions() {
		for _, near := range append(nextTo(d), "n", "exp", "flat", "normal_lpdf") {
			inPlaces(t, "^n ~ "+near+"(1, 1);", api.ErrName)
			inPlaces(t, "^a ~ "+near+"(b);", api.ErrName)
			inPlaces(t, "^R ~ "+near+"();", api.ErrName)
		}
		// A variable may have a distribution's name.
		passes(t, "parameters { real "+d+"; } model { "+d+" ~ normal("+d+", 1); for (i in 1:2) { i ~ "+d+"("+[]string{"", "1", "1, 1"}[published()[d].args]+"); } }")
	}
	inPlaces(t, "^k ~ normal(a, b);", api.ErrType)
	inPlaces(t, "^r ~ poisson(a);", api.ErrType)
	inPlaces(t, "^a ~ normal(b, c);", api.ErrName)
	inPlaces(t, "v ~ normal(^b, c);", api.ErrName)
	inPlaces(t, "v ~ normal(^k, c);", api.ErrType)
	inPlaces(t, "r ~ normal(^v, c);", api.ErrType)
	inPlaces(t, "r ~ normal(v * ^b, c);", api.ErrName)
	inPlaces(t, "r ~ normal(R, ^c);", api.ErrName)
	inPlaces(t, "v ~ gamma(^R, c);", api.ErrLevel)
	inPlaces(t, "v ~ gamma(^V, c);", api.ErrType)
	inPlaces(t, "v ~ beta(1, ^R); v ~ beta(R, 1);", api.ErrLevel)
	inPlaces(t, "v ~ beta(^R, k);", api.ErrLevel)
	inPlaces(t, "v ~ beta(^k, R);", api.ErrType)
	inPlaces(t, "v ~ beta(^Y, 1);", api.ErrType)
	inPlaces(t, "v ~ beta(1, ^(r * R));", api.ErrLevel)
	inPlaces(t, "v ~ beta(sum(Y) * ^a, 1);", api.ErrName)
	inPlaces(t, "R ~ gamma(size(V), R);", api.OK)
	inPlaces(t, "R ~ beta(size(V) / 2, y[size(v * R)]);", api.OK)
	inPlaces(t, "v[^R] ~ gamma(R, 1);", api.ErrType)
}
