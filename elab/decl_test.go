package elab_test

import (
	"strconv"
	"strings"
	"testing"

	"stepstone/api"
)

// P22.1: parameters without bounds, with one, with both: numbers, integers, steps of parameters ahead of them, rows' elements.
func TestParameters(t *testing.T) {
	const zero = "z = num 0; "
	makes(t, "parameters { real x; }", "", zero+"u = par; x j = chart u none none; t = add z j; out t; tell x x")
	makes(t, "parameters { real<lower=0.5> x; }", "", zero+"l = num 1/2; u = par; x j = chart u l none; t = add z j; out t; tell x x")
	makes(t, "parameters { real<lower=0> x; }", "", zero+"l = num 0; u = par; x j = chart u l none; t = add z j; out t; tell x x")
	makes(t, "parameters { real<upper=2> x; }", "", zero+"l = num 2; u = par; x j = chart u none l; t = add z j; out t; tell x x")
	makes(t, "parameters { real<lower=2, upper=3> x; }", "", zero+"a = num 2; b = num 3; u = par; x j = chart u a b; t = add z j; out t; tell x x")
	makes(t, "parameters { vector<lower=2, upper=3>[2] x; }", "",
		zero+"a = num 2; b = num 3; u = par; x j = chart u a b; t = add z j; v = par; y k = chart v a b; t = add t k; out t; tell x[1] x; tell x[2] y")
	makes(t, "parameters { array[2] real<upper=-3> x; real y; }", "",
		zero+"a = num -3; u = par; x j = chart u none a; t = add z j; v = par; y k = chart v none a; t = add t k; w = par; t = add t z; out t; tell x[1] x; tell x[2] y; tell y w")
	// Bounds that are steps are made once for all elements; the lower one first.
	makes(t, "data { vector[2] b; int n; } parameters { vector<lower=exp(b[2]) + n, upper=1 - n>[n] x; }", "b = [7, 1.5]; n = 2;",
		zero+"b = num 3/2; e = exp b; n = num 2; l = add e n; h = num -1; u = par; x j = chart u l h; t = add z j; v = par; y k = chart v l h; t = add t k; out t; tell x[1] x; tell x[2] y")
	makes(t, "transformed data { real a = 3; vector[2] b; b[1] = 1; b[2] = 2; } parameters { real<lower=a> x; real<upper=b[2]> y; }", "",
		zero+"a = num 3; b = num 1; c = num 2; u = par; x j = chart u a none; t = add z j; v = par; y k = chart v none c; t = add t k; out t; tell x x; tell y y")
	// What is below a parameter can't be above it: what it is bounded by depends on no parameter.
	fails(t, api.ErrLevel, "parameters { real x; real<lower=^x> y; }", "")
	// Without elements there are bounds, and no parameter.
	makes(t, "parameters { vector<lower=4, upper=5>[0] x; array[0] real y; }", "", zero+"a = num 4; b = num 5; out z")
	// The order: the size, the lower bound, the upper one, the parameters.
	fails(t, api.ErrRange, "data { array[1] int k; } parameters { vector<lower=k[2], upper=k[3]>[^k[0]] x; }", "k = [1];")
	fails(t, api.ErrRange, "data { array[1] int k; } parameters { vector<lower=^k[2], upper=k[3]>[k[1]] x; }", "k = [1];")
	fails(t, api.ErrRange, "data { array[1] int k; } parameters { vector<lower=k[1], upper=^k[3]>[k[1]] x; }", "k = [1];")
	fails(t, api.ErrRange, "data { array[1] int k; } parameters { vector<lower=k[1], upper=^k[3]>[201] x; }", "k = [1];")
}

// P22.1: sizes are from 0 to MaxSize.
func TestDeclaredSizes(t *testing.T) {
	for _, block := range []string{"transformed data", "parameters", "transformed parameters", "generated quantities"} {
		for _, d := range []string{"vector[SIZE] v;", "array[SIZE] real v;", "array[SIZE] int v;"} {
			if strings.Contains(d, "int") && block != "transformed data" {
				continue
			}
			for _, s := range []string{"^-1", "^1001", "^0 - 1", "^1000 + 1", "^999999999", "^-999999999", "^n - 1", "^n + 1001"} {
				fails(t, api.ErrRange, "data { int n; } "+block+" { "+strings.ReplaceAll(d, "SIZE", s)+" }", "n = 0;")
			}
			made(t, "data { int n; } "+block+" { "+strings.ReplaceAll(d, "SIZE", "n")+" }", "n = 0;")
		}
	}
	for n, of := range map[int]string{1: "1", 999: "999", 1000: "1000", 0: "n"} {
		x := made(t, "data { int n; } transformed data { vector["+of+"] v; array["+of+"] int k; array["+of+"] real r; int s = size(v) + size(k) + size(r); } model { target += s; }", "n = 0;")
		if last := x.Nodes[x.Nodes[x.Out].B].C; len(x.Nodes) > 3 || bigOf(last.N).Int64() != int64(3*n) {
			t.Errorf("of size %d: %s", n, shownTape(x))
		}
	}
	// Data's are layer 16's.
	fails(t, api.ErrRange, "data { vector[^1001] v; }", "v = [];")
	fails(t, api.ErrRange, "data { vector[^-1] v; }", "v = [];")
}

// P22.1: there are at most MaxPars parameters.
func TestMostParameters(t *testing.T) {
	for _, s := range []string{
		"vector[200] v;", "vector[199] v; real x;", "real x; array[100] real<lower=1> v; vector<lower=0, upper=1>[99] w;", "vector[0] u; vector[200] v; vector[0] w;",
	} {
		if x := made(t, "parameters { "+s+" }", ""); x.Pars != mostPars || len(x.Tells) != mostPars {
			t.Errorf("%s: %d parameters, %d are told", s, x.Pars, len(x.Tells))
		}
	}
	for _, s := range []string{
		"^vector[201] v;", "^vector[1000] v;", "vector[200] v; ^real x;", "vector[200] v; vector[0] u; ^array[1] real<upper=1> w; real y;", "real x; ^vector[200] v;", "array[100] real u; ^vector[101] v;",
	} {
		fails(t, api.ErrBudget, "parameters { "+s+" }", "")
	}
}

// P22.1: what is declared with a value is set to it; what is declared without one is not set.
func TestInit(t *testing.T) {
	makes(t, "transformed data { int n = 3; real a = n; real b = 0.5; vector[2] v; v[1] = a; v[2] = b; } parameters { real x; } transformed parameters { vector[2] w = v * x; real y = w[2]; } generated quantities { real g = n; vector[2] h = w; }", "",
		"z = num 0; a = num 3; b = num 1/2; x = par; t = add z z; c = mul a x; d = mul b x; out t; tell x x; tell w[1] c; tell w[2] d; tell y d; tell g a; tell h[1] c; tell h[2] d")
	// An integer variable takes an integer, without a step; another one makes it a step at once.
	makes(t, "transformed data { int n = 3 + 4; int m = n * n; }", "", "z = num 0; out z")
	makes(t, "transformed data { real a = 3 + 4; real b = 7; }", "", "z = num 0; a = num 7; out z")
	for _, block := range []string{"transformed data", "transformed parameters", "generated quantities"} {
		fails(t, api.ErrRange, "data { vector[2] y; } "+block+" { ^vector[3] v = y; }", "y = [1, 2];")
		fails(t, api.ErrRange, "data { vector[2] y; } "+block+" { ^vector[1] v = y + y; }", "y = [1, 2];")
		fails(t, api.ErrRange, "data { vector[0] y; } "+block+" { ^vector[1] v = y; }", "y = [];")
		fails(t, api.ErrRange, "data { vector[0] y; } "+block+" { vector[^1001] v = y; }", "y = [];")
		fails(t, api.ErrRange, "data { vector[1] y; } "+block+" { vector[3] v = 2 * y[1 + ^999999999 * 9] * y; }", "y = [1];")
	}
	// A value is evaluated before it is held against the size.
	fails(t, api.ErrRange, "data { vector[2] y; } transformed data { vector[3] v = ^y[3] * y; }", "y = [1, 2];")
	// What is declared later is set by what was declared before.
	makes(t, "transformed data { int a = 2; vector[a] v; int b = size(v) + a; array[b] int k; int c = size(k) * 10; } model { target += c; }", "", "z = num 0; a = num 40; t = add z a; out t")
}

// P22.1: by the end of their block variables from the parameters' blocks on have to be set.
func TestSetInTheEnd(t *testing.T) {
	for _, block := range []string{"transformed parameters", "generated quantities"} {
		fails(t, api.ErrUnset, block+" { ^real a; }", "")
		fails(t, api.ErrUnset, block+" { real b = 1; ^real a; real c; }", "")
		fails(t, api.ErrUnset, block+" { ^vector[2] a; real c; a[1] = 1; }", "")
		fails(t, api.ErrUnset, block+" { ^vector[2] a; a[2] = 1; }", "")
		fails(t, api.ErrUnset, block+" { ^array[3] real a; for (i in 1 : 2) { a[i] = i; } }", "")
		fails(t, api.ErrUnset, block+" { real b; ^real a; vector[1] c; if (1 == 2) { a = 1; } b = 2; }", "")
		// Its statements come first.
		fails(t, api.ErrRange, block+" { real a; vector[1] b; ^b[2] = 1; }", "")
		made(t, block+" { vector[0] a; array[0] real b; }", "")
		makes(t, block+" { real a; vector[2] b; array[2] real c; a = 1; b[2] = 2; b[1] = 1; for (i in 1 : 2) { c[i] = i; } }", "",
			"z = num 0; a = num 1; b = num 2; out z; tell a a; tell b[1] a; tell b[2] b; tell c[1] a; tell c[2] b")
	}
	// The parameters' block ends before the model begins, the last one behind it.
	fails(t, api.ErrUnset, "transformed parameters { ^real a; } model { target += 0.5; for (i in 1 : 99999) { target += i; } }", "")
	fails(t, api.ErrUnset, "transformed parameters { ^real a; } generated quantities { real b; }", "")
	fails(t, api.ErrRange, "data { vector[1] v; } model { target += ^v[2]; } generated quantities { real a; }", "v = [1];")
	// Before the parameters nothing has to be set.
	made(t, "transformed data { int n; real a; vector[3] b; array[2] int k; array[2] real r; b[1] = 2; }", "")
}

// P22.1, P22.3: what is told, in order, and what is not.
func TestTells(t *testing.T) {
	tells := func(src, data string, want ...string) {
		t.Helper()
		x := made(t, src, data)
		var got []string
		for _, one := range x.Tells {
			got = append(got, one.Name)
		}
		if a, b := strings.Join(got, " "), strings.Join(want, " "); a != b {
			t.Errorf("%s: told are %s, want %s", src, a, b)
		}
	}
	tells("", "")
	tells("data { real a; vector[1] c; } transformed data { real b = 1; vector[1] d = c; }", "a = 1; c = [2];")
	tells("parameters { real b; vector[3] a; array[1] real c; vector[0] d; }", "", "b", "a[1]", "a[2]", "a[3]", "c[1]")
	tells("parameters { real b; vector[2] a; } transformed parameters { real z = b; vector[2] y = a; } model { target += 1; } generated quantities { array[2] real x; real w = 1; x[1] = 1; x[2] = 3; }", "",
		"b", "a[1]", "a[2]", "z", "y[1]", "y[2]", "x[1]", "x[2]", "w")
	tells("transformed parameters { real z = 1; } generated quantities { real w = 1; }", "", "z", "w")
	tells("parameters { real z; } generated quantities { real w = 1; }", "", "z", "w")
	tells("generated quantities { real w = 1; }", "", "w")
	var names []string
	for i := range 1000 {
		names = append(names, "v["+strconv.Itoa(i+1)+"]")
	}
	tells("generated quantities { vector[1000] v; for (i in 1 : 1000) { v[i] = i; } }", "", names...)
}

// P22.1: empty blocks, and blocks that are absent, make nothing; the target is 0.
func TestEmpty(t *testing.T) {
	for _, s := range []string{
		"", "data { }", "model { }", "generated quantities { }", "data { } transformed data { } parameters { } transformed parameters { } model { } generated quantities { }",
		"data { int n; vector[2] v; }", "data { real n; vector[2] v; } model { for (i in 1 : 3) { } if (1 == 1) { } else { } { } }", "transformed data { real x; vector[3] v; }",
		"model { for (i in -999999999 : 999999999) { } }",
	} {
		makes(t, s, "n = 3; v = [1, 2.5];", "z = num 0; out z")
	}
}
