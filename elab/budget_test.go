package elab_test

import (
	"math"
	"strconv"
	"strings"
	"testing"

	"stepstone/api"
	"stepstone/elab"
)

// placesAre checks where each budget that is too small fails: a source has a ^ and a letter for each place; the letters are the steps from the second one on, in order.
func placesAre(t *testing.T, src, data, letters string) {
	t.Helper()
	at := map[byte]int{}
	var s strings.Builder
	for i := 0; i < len(src); i++ {
		if src[i] == '^' {
			i++
			at[src[i]] = s.Len()
			continue
		}
		s.WriteByte(src[i])
	}
	x := made(t, s.String(), data)
	if len(x.Nodes) != len(letters)+1 {
		t.Errorf("%s makes %s, but %d places are told", src, shownTape(x), len(letters))
		return
	}
	for i := range letters {
		want := api.Fault{E: api.ErrBudget, At: at[letters[i]]}
		if x, f, inData := elab.Compile(s.String(), data, i+1); f != want || inData || !isNone(x) {
			t.Errorf("%s with %d steps: %s, %v, want %s", src, i+1, shownFault(f), inData, shownFault(want))
		}
	}
	if _, f, _ := elab.Compile(s.String(), data, len(x.Nodes)); f != (api.Fault{}) {
		t.Errorf("%s with all %d steps: %s", src, len(x.Nodes), shownFault(f))
	}
}

// P22.1: ErrBudget at the place of an expression whose step is one too many; for an integer that is a kid, of the expression that it is a kid of.
func TestBudgetOfExpressions(t *testing.T) {
	// Alone an integer has its own place.
	placesAre(t, "model { ^btarget += ^a3; }", "", "ab")
	placesAre(t, "model { ^btarget += ^a3 + 4; }", "", "ab")
	placesAre(t, "data { int n; } model { ^btarget += ^an; }", "n = 3;", "ab")
	placesAre(t, "transformed data { ^dreal a = ^e-^f3; }", "", "e")
	placesAre(t, "transformed data { real a; vector[2] v; ^sa = ^e3; ^rv[^i2] = ^f4; }", "", "ef")
	placesAre(t, "model { ^btarget += ^a1.5; }", "", "ab")
	placesAre(t, "model { ^btarget += ^aexp(^c3); }", "", "aab")
	placesAre(t, "model { ^btarget += ^aexp(^c3.5); }", "", "cab")
	placesAre(t, "model { ^btarget += ^a-^c3.5; }", "", "cab")
	placesAre(t, "model { ^btarget += ^a2 * ^c1.5; }", "", "acab")
	placesAre(t, "model { ^btarget += ^a-^c(^d2 * ^e1.5) + ^f3; }", "", "cecaaab")
	placesAre(t, "model { ^btarget += ^ainv_logit(^c2.5); }", "", "caaaaab")
	placesAre(t, "model { ^btarget += ^asquare(^c2); }", "", "aab")
	placesAre(t, "data { real r; vector[2] y; array[2] real q; } model { ^btarget += ^cr; ^etarget += ^fy[2]; ^gtarget += ^hsum(^iq); }", "r = 2; y = [3, 4]; q = [5, 6];", "cbfeiihhg")
	placesAre(t, "data { vector[2] y; } model { ^btarget += ^ddot(^ay, ^cy); }", "y = [3, 4];", "aaddddb")
	placesAre(t, "data { vector[2] y; } model { ^btarget += ^s9 * ^nsize(^a8 * ^cy) + ^d1.5; }", "y = [3, 4];", "accaasdsb")
	placesAre(t, "data { vector[2] y; } generated quantities { ^gvector[2] o = ^a-^cy + ^dy * ^e2; }", "y = [3, 4];", "ccaadddaa")
	placesAre(t, "data { array[2] int k; } model { ^btarget += ^s1.5 + ^asum(^ck); ^dtarget += ^ek[^f2]; }", "k = [3, 4];", "sssbed")
}

// P22.1: ErrBudget at a declaration's place: for a parameter, for its chart, for the target's growing by it; for its bounds at theirs.
func TestBudgetOfDeclarations(t *testing.T) {
	placesAre(t, "parameters { ^preal x; }", "", "pp")
	placesAre(t, "parameters { ^preal x; ^qvector[2] v; }", "", "ppqqqq")
	placesAre(t, "parameters { ^preal<lower=^a1> x; }", "", "apppp")
	placesAre(t, "parameters { ^preal<upper=^a-^c1> x; }", "", "apppp")
	placesAre(t, "parameters { ^preal<lower=^l-^k0.5> x; }", "", "klpppp")
	placesAre(t, "data { int n; } parameters { ^pvector<lower=^l1, upper=^u2>[^sn] v; }", "n = 2;", "lu"+strings.Repeat("p", 14+12))
	placesAre(t, "data { real r; } parameters { ^parray[1] real<lower=^l1, upper=^u2 * ^rr> v; }", "r = 1.5;", "luru"+strings.Repeat("p", 14))
	placesAre(t, "data { vector[3] y; } parameters { ^pvector[^ssize(^c4 * ^yy) - 3] v; }", "y = [1, 2, 3];", "cyyyccc")
	placesAre(t, "transformed parameters { ^preal x = ^a1.5; } generated quantities { ^qvector[1] y; ^sy[^i1] = ^d3; }", "", "ad")
}

// P22.1: ErrBudget at a statement's place: for a distribution's steps, and the target's.
func TestBudgetOfStatements(t *testing.T) {
	placesAre(t, "parameters { ^preal x; } model { ^sx ~ normal(^a1.5, ^b2); }", "", "ppab"+strings.Repeat("s", 8))
	placesAre(t, "data { vector[2] y; } model { ^sy ~ exponential(^b5); }", "y = [1.5, 2.5];", "ssb"+strings.Repeat("s", 6+5))
	placesAre(t, "data { array[2] int k; vector[2] y; } model { { ^sk ~ poisson(^b-^yy); } }", "k = [3, 4]; y = [1.5, 2.5];", "yybb"+strings.Repeat("s", 5+5))
	placesAre(t, "data { int k; } model { if (k == 1) { ^sk ~ bernoulli(^b0.5); } else { ^rk ~ bernoulli(^c0.25); } }", "k = 0;", "c"+strings.Repeat("r", 6))
	placesAre(t, "model { for (i in 1 : 2) { ^starget += ^ii; ^rtarget += ^ji * ^k0.5; } }", "", "iskjrisjr")
}

// P22.1: at most MaxRuns statements are executed, each time counts, and those of all blocks count together.
func TestMostRuns(t *testing.T) {
	for _, s := range []string{
		"model { for (i in 1 : 99999) { { } } }",
		"model { for (i in 1 : 33333) { { } { } { } } }",
		"model { for (i in 1 : 999) { for (j in 1 : 99) { { } } } for (i in 1 : 98) { { } } }",
		"model { for (i in 0 : 49998) { { { } } } { } }",
		"model { for (i in 1 : 49999) { if (i < 7) { { } } else { { } } } { } }",
		"model { for (i in 1 : 99999) { if (i < 0) { { } } } }",
		"model { for (i in 1 : 99998) { { } } for (i in 1 : 999999999) { } }",
		"transformed data { for (i in 1 : 49998) { { } } } transformed parameters { real x; x = 1; } model { { } } generated quantities { for (i in 1 : 49998) { { } } }",
	} {
		makesNothing := made(t, s, "")
		if len(makesNothing.Nodes) > 2 {
			t.Errorf("%s makes %s", s, shownTape(makesNothing))
		}
	}
	for _, s := range []string{
		"model { for (i in 1 : 100000) { ^{ } } }",
		"model { for (i in -999999999 : 999999999) { ^{ } } }",
		"model { for (i in 1 : 33334) { ^{ } { } { } } }",
		"model { { } for (i in 1 : 33334) { { } { } ^{ } } }",
		"model { for (i in 1 : 1000) { for (j in 1 : 99) { ^{ } } } }",
		"model { for (i in 1 : 99999) { { } } ^for (i in 1 : 2) { } }",
		"model { for (i in 1 : 99999) { { } } ^{ } }",
		"model { for (i in 1 : 99999) { { } } ^if (1 == 1) { } }",
		"data { array[1] int k; } model { for (i in 1 : 99999) { { } } ^if (1 == k[2]) { } }",
		"data { array[1] int k; } model { for (i in 1 : 99999) { { } } ^for (i in k[2] : 1) { } }",
		"model { for (i in 1 : 99999) { { } } ^target += 1; }",
		"data { array[1] int k; } model { for (i in 1 : 99999) { { } } ^target += k[3]; }",
		"data { array[1] int k; } model { for (i in 1 : 99999) { { } } ^k[2] ~ poisson(1); }",
		"transformed data { for (i in 1 : 99999) { { } } } parameters { real x; } transformed parameters { real y; ^y = x; }",
		"transformed data { array[2] real y; for (i in 1 : 99999) { { } } ^y[3] = 1; }",
		"transformed data { for (i in 1 : 49999) { { } } } model { for (i in 1 : 49998) { { } } { } } generated quantities { real y = 1; ^y = 2; }",
		"transformed data { for (i in 1 : 49999) { if (i == 4) { } else { { } } } } model { { } { } ^{ } }",
	} {
		fails(t, api.ErrBudget, s, "k = [1];")
	}
	// Declarations do not count.
	made(t, "transformed data { for (i in 1 : 99999) { { } } } parameters { vector[9] x; } transformed parameters { real a = x[1]; } generated quantities { real y = 1; vector[9] z = x; }", "")
}

// P22.1: the steps may be MaxNodes, and not one more.
func TestMostNodes(t *testing.T) {
	// A step for each integer, and one for the target: 1 + 2 * 9999 + 1.
	if x := made(t, "model { for (i in 1 : 9999) { target += i; } } generated quantities { real x = 0.5; }", ""); len(x.Nodes) != mostNodes {
		t.Errorf("%d steps", len(x.Nodes))
	}
	fails(t, api.ErrBudget, "model { for (i in 1 : 9999) { target += i; } } generated quantities { real x = ^-0.5; }", "")
	fails(t, api.ErrBudget, "model { for (i in 1 : 9999) { target += i; } } generated quantities { real x = 1; real y = 0.5; real z = ^0.25; }", "")
	fails(t, api.ErrBudget, "model { for (i in 1 : 10000) { ^target += i; } }", "")
	fails(t, api.ErrBudget, "model { target += 0.5; target += 0.5; for (i in 1 : 10000) { target += ^i; } }", "")
}

// P22.1, P22.2: budgets are from 1 to MaxNodes; that comes before all else.
func TestBudgets(t *testing.T) {
	want := api.Fault{E: api.ErrArg}
	broken := api.Prog{}
	broken.Blocks[api.BkModel].Stmts = []api.Stmt{{At: 5}}
	for _, n := range []int{math.MinInt, -1 << 32, -mostNodes, -2, -1, 0, mostNodes + 1, 1 << 31, 1 << 32, 1<<32 + 7, math.MaxInt} {
		for _, s := range []string{"", "model { target += 1; }", "model { target += x; }", "model {", "\x80", strings.Repeat(" ", 20001)} {
			for _, data := range []string{"", "n = 3;", "n = ", "\x80"} {
				if x, f, inData := elab.Compile(s, data, n); f != want || inData || !isNone(x) {
					t.Errorf("Compile(%s; %s; %d): %s, %v", cut(s), data, n, shownFault(f), inData)
				}
			}
		}
		for _, p := range []api.Prog{{}, broken, parsed(t, "data { int n; } model { }")} {
			if x, f := elab.Build(p, nil, n); f != want || !isNone(x) {
				t.Errorf("Build with %d: %s", n, shownFault(f))
			}
		}
	}
	for _, n := range []int{1, 2, mostNodes - 1, mostNodes} {
		if x, f, inData := elab.Compile("", "", n); f != (api.Fault{}) || inData || len(x.Nodes) != 1 {
			t.Errorf("Compile with %d: %s, %v", n, shownFault(f), inData)
		}
		if x, f := elab.Build(api.Prog{}, nil, n); f != (api.Fault{}) || len(x.Nodes) != 1 {
			t.Errorf("Build with %d: %s", n, shownFault(f))
		}
	}
}

// P22.1: a long program with every budget: no step more than there may be, and the place does not go back where the steps do not.
func TestEveryBudget(t *testing.T) {
	s := "data { vector[9] y; } parameters { vector<lower=0>[9] m; real<lower=1, upper=2> s; } model { y ~ normal(m, s); m ~ cauchy(y, 9); for (i in 1 : 9) { target += i * m[i] / y[i]; } } generated quantities { vector[9] o = inv_logit(m - y); }"
	p, data := parsed(t, s), items(t, "y = [1, 2, 3, 4.5, 5, 6, 7, 8, 9];")
	x, _ := isModel(t, p, data, mostNodes)
	for budget := range len(x.Nodes) + 3 {
		if y, f := isModel(t, p, data, budget); len(y.Nodes) > budget || (f.E == api.OK) != (budget >= len(x.Nodes)) {
			t.Errorf("%d of %d steps: %s, %s", budget, len(x.Nodes), shownFault(f), strconv.Itoa(len(y.Nodes)))
		}
	}
}
