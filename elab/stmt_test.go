package elab_test

import (
	"strings"
	"testing"

	"stepstone/api"
	"stepstone/elab"
	"stepstone/tape"
)

// P22.1: variables, and elements of them, are set, in part, twice, by a loop.
func TestSet(t *testing.T) {
	makes(t, "transformed data { int n; array[2] int k; n = 3; n = n + 1; k[2] = n; k[1] = k[2] * 2; k[2] = k[1] + n; n = sum(k); } model { target += n; }", "", "z = num 0; a = num 20; t = add z a; out t")
	makes(t, "generated quantities { real a; vector[2] v; a = 1; a = a + 1; v[1] = a; v[2] = v[1] * a; v[1] = v[2]; v = v + v; }", "",
		"z = num 0; a = num 1; b = add a a; c = mul b b; d = add c c; out z; tell a b; tell v[1] d; tell v[2] d")
	makes(t, "transformed data { array[3] real q; for (i in 1 : 3) { q[4 - i] = i / 2; } q[2] = 7; } generated quantities { real a = sum(q); }", "",
		"z = num 0; a = num 1; b = num 2; c = div a b; d = div b b; e = num 3; f = div e b; g = num 7; h = add z f; i = add h g; j = add i c; out z; tell a j")
	// An integer becomes a step where it is set, not where it is read.
	makes(t, "transformed data { real a; vector[1] v; a = 3; v[1] = 4; } model { target += 5; target += a; target += v[1]; }", "",
		"z = num 0; a = num 3; b = num 4; c = num 5; t = add z c; t = add t a; t = add t b; out t")
	fails(t, api.ErrRange, "transformed data { vector[2] v; vector[3] w; v[1] = 1; v[2] = 1; ^w = v; }", "")
	fails(t, api.ErrRange, "transformed data { vector[0] v; vector[1] w; ^w = v; }", "")
	fails(t, api.ErrRange, "transformed data { vector[0] v; vector[1] w; w[1] = 2; ^v = w; }", "")
	for _, s := range []string{"0", "3", "-1", "2 + 1", "999999999", "-999999999", "size(v) * 2"} {
		for _, d := range []string{"vector[2] v;", "array[2] int v;", "array[2] real v;"} {
			fails(t, api.ErrRange, "transformed data { "+d+" ^v["+s+"] = 1; }", "")
		}
	}
	fails(t, api.ErrRange, "transformed data { vector[0] v; ^v[1] = 1; }", "")
	// The index first, then whether there is such an element, then the value.
	fails(t, api.ErrRange, "transformed data { vector[2] v; array[1] int k; v[^k[2]] = v[3]; }", "")
	fails(t, api.ErrRange, "transformed data { vector[2] v; real a; ^v[3] = a; }", "")
	fails(t, api.ErrUnset, "transformed data { vector[2] v; real a; v[2] = ^a; }", "")
	fails(t, api.ErrUnset, "transformed data { vector[2] v; vector[3] w; v[2] = 1; w = ^v; }", "")
}

// P22.1: the target grows by each term, in order.
func TestAdd(t *testing.T) {
	makes(t, "parameters { real x; } model { target += x; target += 3; target += -x; target += x; }", "",
		"z = num 0; x = par; t = add z z; t = add t x; a = num 3; t = add t a; b = neg x; t = add t b; t = add t x; out t; tell x x")
}

// P22.1: each distribution of a scalar and of a row, with scalars and rows as arguments.
func TestDistributions(t *testing.T) {
	for _, d := range distributions() {
		if d.isDiscrete {
			isStmt(t, "n ~ "+d.name+"(x);", "e = count "+d.name+" 3 x; t = add t e")
			isStmt(t, "1 - n ~ "+d.name+"(r);", "a = num 1/2; e = count "+d.name+" -2 a; t = add t e")
			isStmt(t, "1 ~ "+d.name+"(2);", "a = num 2; e = count "+d.name+" 1 a; t = add t e")
			isStmt(t, "k ~ "+d.name+"(x);", "e = count "+d.name+" 4 x; t = add t e; e = count "+d.name+" 5 x; t = add t e")
			isStmt(t, "k ~ "+d.name+"(w);", "e = count "+d.name+" 4 w1; t = add t e; e = count "+d.name+" 5 w2; t = add t e")
			isStmt(t, "k ~ "+d.name+"(v * 2);", "a = num 2; b = mul v1 a; c = mul v2 a; e = count "+d.name+" 4 b; t = add t e; e = count "+d.name+" 5 c; t = add t e")
			continue
		}
		if d.args == 1 {
			isStmt(t, "x ~ "+d.name+"(r);", "a = num 1/2; e = term "+d.name+" x a; t = add t e")
			isStmt(t, "7 ~ "+d.name+"(3);", "b = num 7; a = num 3; e = term "+d.name+" b a; t = add t e")
			isStmt(t, "v ~ "+d.name+"(r);", "a = num 1/2; e = term "+d.name+" v1 a; t = add t e; e = term "+d.name+" v2 a; t = add t e")
			isStmt(t, "w ~ "+d.name+"(v);", "e = term "+d.name+" w1 v1; t = add t e; e = term "+d.name+" w2 v2; t = add t e")
			isStmt(t, "y ~ "+d.name+"(q);", "a = num 3/2; b = num -2; c = num 7; d = num 100; e = term "+d.name+" a c; t = add t e; e = term "+d.name+" b d; t = add t e")
			continue
		}
		isStmt(t, "x ~ "+d.name+"(9, n);", "a = num 9; b = num 3; e = term "+d.name+" x a b; t = add t e")
		isStmt(t, "n ~ "+d.name+"(9, r);", "c = num 3; a = num 9; b = num 1/2; e = term "+d.name+" c a b; t = add t e")
		isStmt(t, "w ~ "+d.name+"(9, n);", "a = num 9; b = num 3; e = term "+d.name+" w1 a b; t = add t e; e = term "+d.name+" w2 a b; t = add t e")
		if d.fixed < 2 {
			isStmt(t, "v ~ "+d.name+"(9, w);", "a = num 9; e = term "+d.name+" v1 a w1; t = add t e; e = term "+d.name+" v2 a w2; t = add t e")
		}
		if d.fixed < 1 {
			isStmt(t, "v ~ "+d.name+"(w, 9);", "a = num 9; e = term "+d.name+" v1 w1 a; t = add t e; e = term "+d.name+" v2 w2 a; t = add t e")
			isStmt(t, "v ~ "+d.name+"(w, exp(v));", "a = exp v1; b = exp v2; e = term "+d.name+" v1 w1 a; t = add t e; e = term "+d.name+" v2 w2 b; t = add t e")
		}
	}
}

// isStmt checks the steps that a statement makes, t being the target.
func isStmt(t *testing.T, stmt, lines string) {
	t.Helper()
	makes(t, given+"model { "+stmt+" }", givenData, givenRow+lines+"; out t"+givenTold)
}

// P22.1: a row among the arguments has as many elements as what has the distribution; that is asked when all are evaluated.
func TestDistributedRows(t *testing.T) {
	const more = "data { vector[3] y; array[3] real q; array[3] int k; vector[0] none; array[0] int nones; array[0] real noneq; vector[2] u; array[2] real p; array[1] int one; } model { "
	const data = "y = [1, 2, 3]; q = [1, 2, 3]; k = [0, 1, 2]; none = []; nones = []; noneq = []; u = [4, 5]; p = [4, 5]; one = [1];"
	for _, s := range []string{
		"^y ~ normal(u, 1);", "^y ~ normal(1, u);", "^y ~ normal(u, u);", "^y ~ normal(y, p);", "^q ~ normal(p, q);", "^y ~ normal(none, 1);", "^none ~ normal(y, 1);", "^noneq ~ normal(1, p);", "^k ~ poisson(u);", "^k ~ poisson(p);",
		"^nones ~ poisson(u);", "^one ~ bernoulli(none);", "^one ~ poisson_log(u);", "^u ~ exponential(y);", "^y + y ~ cauchy(1, u);", "^y ~ gamma(1, u);", "y ~ normal(1, 2); ^u ~ lognormal(1, y);", "^y ~ uniform(p, y);",
	} {
		fails(t, api.ErrRange, more+s+" }", data)
	}
	fails(t, api.ErrRange, more+"y ~ normal(u, ^u[3]); }", data)
	fails(t, api.ErrRange, more+"^y[4] ~ normal(1, u[3]); }", data)
	fails(t, api.ErrRange, more+"^k[4] ~ poisson(u[3]); }", data)
	fails(t, api.ErrRange, more+"k ~ poisson(^u[3] * y); }", data)
	// Without elements the arguments are evaluated, and there is no term.
	makes(t, more+"none ~ normal(none, 9); nones ~ poisson(8); noneq ~ exponential(noneq); none ~ normal(noneq, none); }", data, "z = num 0; a = num 9; b = num 8; out z")
	// First what has the distribution, then the arguments, then a term and its target for each element.
	makes(t, more+"u ~ normal(p, 9); }", data, "z = num 0; a = num 4; b = num 5; c = num 9; e = term normal a a c; t = add z e; e = term normal b b c; t = add t e; out t")
}

// P22.1: loops go from the one to the other, if it is not below it.
func TestLoops(t *testing.T) {
	const head = "data { int n; } model { "
	adds := func(body string, terms ...string) {
		t.Helper()
		lines := "z = num 0; t = as z"
		for _, s := range terms {
			lines += "; a = num " + s + "; t = add t a"
		}
		makes(t, head+body+" }", "n = 3;", lines+"; out t")
	}
	adds("for (i in 1 : 3) { target += i; }", "1", "2", "3")
	adds("for (i in n : n) { target += i; }", "3")
	adds("for (i in n : n - 1) { target += i; }")
	adds("for (i in 5 : -5) { target += i; }")
	adds("for (i in -1 : 1) { target += i; target += 7; }", "-1", "7", "0", "7", "1", "7")
	adds("for (i in 1 : n) { for (j in i : n) { target += i * 10 + j; } target += i; }", "11", "12", "13", "1", "22", "23", "2", "33", "3")
	adds("for (i in 1 : 2) { for (j in 1 : 2) { for (k in j : i) { target += i * 100 + j * 10 + k; } } }", "111", "211", "212", "222")
	adds("for (i in 1 : 2) { for (j in 2 : i) { target += j; } }", "2")
	// A name is free again behind its loop, also for another loop.
	adds("for (i in 1 : 2) { target += i; } for (i in 7 : 8) { target += i; } for (j in 1 : 2) { for (i in j : 2) { target += i; } for (i in 9 : 9) { target += i; } }", "1", "2", "7", "8", "1", "2", "9", "2", "9")
	makes(t, "transformed data { int s = 0; for (i in 1 : 3) { s = s + i; } for (j in 1 : s) { for (i in 1 : 2) { s = s + i; } } } parameters { real i; } transformed parameters { real j = i; } model { target += s; target += i; }", "",
		"z = num 0; i = par; t = add z z; s = num 24; t = add t s; t = add t i; out t; tell i i; tell j i")
	// Where a loop goes to is known when it begins.
	makes(t, "transformed data { int n = 2; for (i in 1 : n) { n = n + i; } } model { target += n; }", "", "z = num 0; a = num 5; t = add z a; out t")
	adds("for (i in 999999999 * 2 : 999999999 + 999999999 + 1) { target += i; }", "1999999998", "1999999999")
	makes(t, "data { int m; } model { for (i in m - 1 : m) { target += i; } for (i in -m : 1 - m) { target += i; } }", "m = 2147483648;",
		"z = num 0; a = num 2147483647; t = add z a; a = num 2147483648; t = add t a; a = num -2147483648; t = add t a; a = num -2147483647; t = add t a; out t")
	fails(t, api.ErrRange, "data { array[1] int k; } model { for (i in ^k[2] : k[0]) { } }", "k = [1];")
	fails(t, api.ErrRange, "data { array[1] int k; } model { for (i in 1 : ^k[0]) { } }", "k = [1];")
	fails(t, api.ErrRange, "data { array[3] int k; } model { for (i in 1 : 4) { target += 1 + ^k[i]; } }", "k = [1, 2, 3];")
}

// P22.1: choices go either way; what is not chosen is not executed.
func TestChoices(t *testing.T) {
	holds := map[string][3]bool{"==": {false, true, false}, "!=": {true, false, true}, "<": {true, false, false}, "<=": {true, true, false}, ">": {false, false, true}, ">=": {false, true, true}}
	for c, want := range holds {
		for i, is := range want {
			for _, a := range []string{"", "-"} {
				// The second one is below, the same and above by turns.
				with := []string{a + "7 - 1", a + "7", a + "7 + 1"}[i]
				s := "model { if (" + with + " " + c + " " + a + "7) { target += 1; target += 2; } else { target += 3; } }"
				lines := "z = num 0; a = num 3; t = add z a; out t"
				if is {
					lines = "z = num 0; a = num 1; t = add z a; b = num 2; t = add t b; out t"
				}
				makes(t, s, "", lines)
			}
		}
	}
	makes(t, "model { if (1 == 2) { target += 1; } if (1 == 1) { } else { target += 2; } if (2 < 1) { } if (1 <= 1) { target += 4; } }", "", "z = num 0; a = num 4; t = add z a; out t")
	makes(t, "model { for (i in 1 : 4) { if (i <= 2) { if (i == 1) { target += 10; } else { target += 20; } } else { if (i != 3) { target += 40; } { target += i; } } } }", "",
		"z = num 0; a = num 10; t = add z a; a = num 20; t = add t a; a = num 3; t = add t a; a = num 40; t = add t a; a = num 4; t = add t a; out t")
	makes(t, "data { vector[1] v; } model { if (1 > 1) { target += v[2]; } else { target += v[1]; } if (size(v) == 1) { target += v[1]; } else { target += v[0]; } }", "v = [5];",
		"z = num 0; a = num 5; t = add z a; t = add t a; out t")
	fails(t, api.ErrRange, "data { array[1] int k; } model { if (^k[2] == k[3]) { } }", "k = [1];")
	fails(t, api.ErrRange, "data { array[1] int k; } model { if (1 == ^k[3]) { } }", "k = [1];")
	fails(t, api.ErrRange, "data { array[1] int k; } model { if (^k[3] + k[2] < 3) { target += k[4]; } else { target += k[5]; } }", "k = [1];")
}

// P22.1: blocks are what is in them.
func TestBlocks(t *testing.T) {
	areSame(t, "parameters { real x; } model { { } { target += x; { target += 2; { } } } target += 3; { x ~ normal(0, 1); } }", "parameters { real x; } model { target += x; target += 2; target += 3; x ~ normal(0, 1); }", "")
}

// P22.1: the blocks are unrolled in order, in each one the declarations first; the first fault is the one that is met first.
func TestOrder(t *testing.T) {
	const block = "{ DECL STMT }"
	titles := []string{"transformed data", "parameters", "transformed parameters", "model", "generated quantities"}
	for from := range titles {
		for _, isDecl := range []bool{true, false} {
			src, isFirst := "data { array[1] int k; } ", true
			for i, title := range titles[from:] {
				decl, stmt := "real a"+strings.Repeat("a", i)+" = 2 * k[2];", "for (i in k[3] : 1) { }"
				if title == "parameters" {
					decl, stmt = "real<lower=k[4]> p;", ""
				}
				if title == "model" {
					decl = ""
				}
				if isFirst && !isDecl {
					decl = ""
				}
				if isFirst && decl+stmt != "" {
					isFirst = false
					if decl != "" {
						decl = strings.Replace(decl, "k[", "^k[", 1)
					} else {
						stmt = strings.Replace(stmt, "k[", "^k[", 1)
					}
				}
				src += title + " " + strings.NewReplacer("DECL", decl, "STMT", stmt).Replace(block) + " "
			}
			fails(t, api.ErrRange, src, "k = [1];")
		}
	}
}

// P22.1: a statement may be handed in without braces' trace: an Else without statements is none.
func TestElseless(t *testing.T) {
	p := parsed(t, "model { if (1 == 2) { target += 1; } else { } }")
	q := parsed(t, "model { if (1 == 2) { target += 1; } }")
	p.Blocks[api.BkModel].Stmts[0].Else = []api.Stmt{}
	x, f := elab.Build(p, nil, 9)
	y, g := elab.Build(q, []api.Datum{}, 9)
	if f != g || f != (api.Fault{}) || !tape.Same(x, y) {
		t.Errorf("%s, %s", shownFault(f), shownFault(g))
	}
}
