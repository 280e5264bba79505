package kind_test

import (
	"fmt"
	"slices"
	"strconv"
	"strings"
	"testing"

	"stepstone/api"
	"stepstone/kind"
	"stepstone/parse"
	"stepstone/tree"
)

func types() []uint8 {
	return []uint8{api.TyInt, api.TyReal, api.TyVec, api.TyInts, api.TyReals}
}

// titles are what the blocks begin with.
func titles() []string {
	return []string{"data", "transformed data", "parameters", "transformed parameters", "model", "generated quantities"}
}

// The chapter's names.
func functions() []string {
	return strings.Fields("exp log sqrt square inv_logit sum dot size")
}

func distributions() []string {
	return strings.Fields("normal cauchy uniform lognormal gamma beta exponential bernoulli bernoulli_logit poisson poisson_log")
}

// nextTo are names that are nearly a name.
func nextTo(name string) []string {
	return []string{name + "s", name + "_", name + "1", name[:len(name)-1] + "9", "x" + name, strings.ToUpper(name[:1]) + name[1:], strings.ToUpper(name), name + "_" + name}
}

// some are a variable of each type that does not depend on parameters, and, in capitals, of each that does. (A program has none of the latter that is an integer.)
func some() []api.Var {
	var out []api.Var
	for i, name := range []string{"n", "r", "v", "k", "y"} {
		out = append(out, api.Var{Name: name, Type: types()[i], Block: api.BkData}, api.Var{Name: strings.ToUpper(name), Type: types()[i], Block: api.BkPars, Par: true})
	}
	return out
}

// ofType is the name of one of some.
func ofType(ty uint8, par bool) string {
	i := slices.IndexFunc(some(), func(v api.Var) bool { return v.Type == ty && v.Par == par })
	return some()[i].Name
}

func shown(s string) string {
	if len(s) > 1200 {
		return strconv.Quote(s[:600]) + " .. " + strconv.Quote(s[len(s)-600:]) + " of " + strconv.Itoa(len(s)) + " bytes"
	}
	return s
}

func shownFault(f api.Fault) string {
	return "error " + strconv.Itoa(int(f.E)) + " at " + strconv.Itoa(f.At)
}

// shownTree is a program as it is written, if it is valid, and otherwise all that it has.
func shownTree(p api.Prog) string {
	if s, e := tree.Write(p); e == api.OK {
		return shown(s)
	}
	return shown(fmt.Sprintf("%+v", p))
}

func shownExpr(x api.Expr) string {
	if s, e := tree.WriteExpr(x); e == api.OK {
		return shown(s)
	}
	return shown(fmt.Sprintf("%+v", x))
}

// marked is a source in which a ^ tells a place, and that place.
func marked(t *testing.T, s string) (string, int) {
	t.Helper()
	before, behind, is := strings.Cut(s, "^")
	if !is || strings.Contains(behind, "^") {
		t.Fatalf("%s does not have one mark", shown(s))
	}
	return before + behind, len(before)
}

func parsed(t *testing.T, s string) api.Prog {
	t.Helper()
	p, f := parse.Parse(s)
	if f != (api.Fault{}) {
		t.Fatalf("%s is not read: %s", shown(s), shownFault(f))
	}
	return p
}

func parsedExpr(t *testing.T, s string) api.Expr {
	t.Helper()
	e, f := parse.Expr(s)
	if f != (api.Fault{}) {
		t.Fatalf("%s is not read: %s", shown(s), shownFault(f))
	}
	return e
}

// passes checks that sources are valid programs.
func passes(t *testing.T, sources ...string) {
	t.Helper()
	for _, s := range sources {
		if f := check(t, parsed(t, s)); f != (api.Fault{}) {
			t.Errorf("Check(%s): %s", shown(s), shownFault(f))
		}
	}
}

// fails checks that sources have an error where a ^ is in them.
func fails(t *testing.T, e api.Errno, sources ...string) {
	t.Helper()
	for _, s := range sources {
		s, at := marked(t, s)
		p := parsed(t, s)
		if f := check(t, p); f != (api.Fault{E: e, At: at}) {
			t.Errorf("Check(%s): %s, want error %d at %d", shown(s), shownFault(f), e, at)
		}
		if l := kind.Vars(p); len(l) != 0 {
			t.Errorf("Vars(%s) = %v", shown(s), l)
		}
	}
}

// gives checks the kind of an expression of some variables.
func gives(t *testing.T, s string, ty uint8, par bool) {
	t.Helper()
	e := parsedExpr(t, s)
	checkExpr(t, e, some())
	if k, f := kind.Of(e, some()); k != (api.Kind{Type: ty, Par: par}) || f != (api.Fault{}) {
		t.Errorf("Of(%s) = %v, %s, want type %d, par %t", shown(s), k, shownFault(f), ty, par)
	}
}

// failsExpr checks that expressions of some variables have an error where a ^ is in them.
func failsExpr(t *testing.T, want api.Errno, sources ...string) {
	t.Helper()
	for _, s := range sources {
		s, at := marked(t, s)
		e := parsedExpr(t, s)
		checkExpr(t, e, some())
		if k, f := kind.Of(e, some()); k != (api.Kind{}) || f != (api.Fault{E: want, At: at}) {
			t.Errorf("Of(%s) = %v, %s, want error %d at %d", shown(s), k, shownFault(f), want, at)
		}
	}
}

// Trees that are made, not read.

func name(s string) api.Expr { return api.Expr{Op: api.ExName, Name: s} }

func num(s string) api.Expr { return api.Expr{Op: api.ExNum, Name: s} }

func ex(op uint8, name string, kids ...api.Expr) api.Expr {
	return api.Expr{Op: op, Name: name, Kids: kids}
}

func exprs(l ...api.Expr) []api.Expr { return l }

func term(e api.Expr) api.Stmt { return api.Stmt{Op: api.StAdd, Kids: exprs(e)} }

func inModel(l ...api.Stmt) api.Prog {
	var p api.Prog
	p.Blocks[api.BkModel] = api.Block{Is: true, Stmts: l}
	return p
}

// Copies of trees, whose lists have memory of their own, and every part of which has a place that no other one has.

type placer struct{ at int }

func (p *placer) next() int {
	p.at += 3
	return p.at
}

func (p *placer) exprs(l []api.Expr) []api.Expr {
	l = slices.Clone(l)
	for i := range l {
		l[i].At = p.next()
		l[i].Kids = p.exprs(l[i].Kids)
	}
	return l
}

func (p *placer) stmts(l []api.Stmt) []api.Stmt {
	l = slices.Clone(l)
	for i, s := range l {
		l[i].At = p.next()
		l[i].Kids, l[i].Body, l[i].Else = p.exprs(s.Kids), p.stmts(s.Body), p.stmts(s.Else)
	}
	return l
}

func (p *placer) decls(l []api.Decl) []api.Decl {
	l = slices.Clone(l)
	for i, d := range l {
		l[i].At = p.next()
		l[i].Size, l[i].Lower, l[i].Upper, l[i].Init = p.exprs(d.Size), p.exprs(d.Lower), p.exprs(d.Upper), p.exprs(d.Init)
	}
	return l
}

// placed begins below 0, so that some places are that, too.
func placed(p api.Prog) api.Prog {
	pl := placer{-100}
	for i, b := range p.Blocks {
		p.Blocks[i].Decls, p.Blocks[i].Stmts = pl.decls(b.Decls), pl.stmts(b.Stmts)
	}
	return p
}

func placedExpr(e api.Expr) api.Expr {
	pl := placer{-10}
	return pl.exprs(exprs(e))[0]
}

// ordinaryProgram has every block, and every kind of declaration, statement, expression, and distribution.
func ordinaryProgram() string {
	return `// what is given
data {
	int<lower=1, upper=100> n; real<lower=n - 0.5> r; vector<upper=square(r) * 3>[n] v;
	array[n + 1] int<lower=0> k; array[size(k)] real<lower=-n, upper=r / 2> y;
}
transformed data {
	int m = sum(k) * n - k[1]; real mean = sum(v) / n; vector[m] w = -v * 2 + exp(v) / r;
	array[2] int j; array[m] real z; int i;
	i = m; j[1] = i; mean = n; w[i] = n;
	for (a in 1 : n) { z[a] = y[a] - mean; if (a == m) { w = v; w[a] = k[a]; } else { for (b in a : n) { j[b] = b; } } }
}
parameters {
	real mu; real<lower=0, upper=exp(r)> s; vector<lower=sqrt(r), upper=n>[m] x; array[j[1]] real<upper=1> u;
}
transformed parameters {
	real t = mu * inv_logit(s); vector[size(x)] p = x / t - w * mu; array[m] real q; vector[n] e;
	{ q[1] = t + n; e = log(x); for (a in 1 : size(x)) { e[a] = dot(x, p) - square(u[a]); } }
}
model {
	target += -mu * mu / 2; target += n;
	mu ~ normal(0, 10); x ~ cauchy(mu, p); u ~ uniform(n, v); s ~ lognormal(mu, s); n ~ normal(0, 1);
	s ~ gamma(2, mu); v ~ gamma(r, x); t ~ beta(n, r); e ~ exponential(q);
	n ~ poisson(s); k ~ poisson_log(e); k ~ bernoulli_logit(y); k[1] ~ bernoulli(t); sum(k) ~ bernoulli(0.5);
	for (a in k[1] : size(q)) {
		if (k[a] >= m) { x[a] ~ normal(y[a], s); { target += sqrt(u[a]); } }
		if (size(x) != 2) { } else { if (a < 3) { target += 1; } else { for (b in a : m) { if (b <= a) { target += b; } } } }
	}
	if (n > 3) { for (a in 1:2) { } for (a in 1:2) { } }
}
generated quantities {
	real a = mu; array[3] real h; vector[3] g = exp(x);
	for (c in 1 : 3) { h[c] = sum(x) + sum(u); } a = s;
}
`
}
