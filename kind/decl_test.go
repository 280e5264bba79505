package kind_test

import (
	"strings"
	"testing"

	"stepstone/api"
)

// atom is an expression, and what is known of it without this layer.
type atom struct {
	text      string
	ty        uint8
	par       bool
	isInexact bool
}

// atoms are of variables that all blocks have, and of those that the blocks from BkPars on have.
func atoms() []atom {
	return []atom{
		{text: "n", ty: api.TyInt}, {text: "3", ty: api.TyInt}, {text: "sum(k) * n", ty: api.TyInt}, {text: "size(y)", ty: api.TyInt}, {text: "k[1]", ty: api.TyInt}, {text: "123456789", ty: api.TyInt},
		{text: "r", ty: api.TyReal}, {text: "2.5", ty: api.TyReal}, {text: "1234567890", ty: api.TyReal}, {text: "n / 1", ty: api.TyReal}, {text: "square(n)", ty: api.TyReal}, {text: "v[n]", ty: api.TyReal}, {text: "sum(y)", ty: api.TyReal},
		{text: "exp(n)", ty: api.TyReal, isInexact: true}, {text: "log(r)", ty: api.TyReal, isInexact: true}, {text: "sqrt(2)", ty: api.TyReal, isInexact: true}, {text: "inv_logit(0)", ty: api.TyReal, isInexact: true},
		{text: "v", ty: api.TyVec}, {text: "v / n", ty: api.TyVec}, {text: "exp(v)", ty: api.TyVec, isInexact: true},
		{text: "k", ty: api.TyInts}, {text: "y", ty: api.TyReals},
		{text: "R", ty: api.TyReal, par: true}, {text: "-R", ty: api.TyReal, par: true}, {text: "V[1]", ty: api.TyReal, par: true}, {text: "exp(n * R)", ty: api.TyReal, par: true, isInexact: true}, {text: "sum(Y)", ty: api.TyReal, par: true},
		{text: "V", ty: api.TyVec, par: true}, {text: "v + V", ty: api.TyVec, par: true}, {text: "Y", ty: api.TyReals, par: true},
		{text: "size(Y)", ty: api.TyInt},
	}
}

func (a atom) isScalar() bool { return a.ty == api.TyInt || a.ty == api.TyReal }

// needsPars tells whether an expression has variables that are not there ahead of BkPars.
func (a atom) needsPars() bool { return strings.ContainsAny(a.text, "RVY") }

const given = "int n; real r; vector[2] v; array[3] int k; array[4] real y; "

const drawn = "real R; vector[2] V; array[2] real Y; "

// inBlock is a program that has a text in a block, and variables ahead of that.
func inBlock(block int, text string) string {
	switch block {
	case api.BkData:
		return "data { " + given + text + " }"
	case api.BkMade:
		return "data { " + given + "} transformed data { " + text + " }"
	case api.BkPars:
		return "data { " + given + "} parameters { " + drawn + text + " }"
	}
	return "data { " + given + "} parameters { " + drawn + "} " + titles()[block] + " { " + text + " }"
}

// declBlocks are the blocks that have declarations.
func declBlocks() []int {
	return []int{api.BkData, api.BkMade, api.BkPars, api.BkTurned, api.BkGenerated}
}

func isWhole(ty uint8) bool { return ty == api.TyInt || ty == api.TyInts }

// written is a declaration of a type, with a size if it has one, bounds and an initial value as they are given.
func written(ty uint8, size, bounds, first string) string {
	if bounds != "" {
		bounds = "<" + bounds + ">"
	}
	switch ty {
	case api.TyInt:
		return "int" + bounds + " q" + first + ";"
	case api.TyReal:
		return "real" + bounds + " q" + first + ";"
	case api.TyVec:
		return "vector" + bounds + "[" + size + "] q" + first + ";"
	case api.TyInts:
		return "array[" + size + "] int" + bounds + " q" + first + ";"
	}
	return "array[" + size + "] real" + bounds + " q" + first + ";"
}

// declares checks a declaration in a block: the error at its ^, or none; or, of an integer from BkPars on, at its place.
func declares(t *testing.T, block int, ty uint8, d string, e api.Errno) {
	t.Helper()
	switch {
	case block >= api.BkPars && isWhole(ty):
		fails(t, api.ErrType, inBlock(block, "^"+strings.Replace(d, "^", "", 1)))
	case e != api.OK:
		fails(t, e, inBlock(block, d))
	default:
		passes(t, inBlock(block, strings.Replace(d, "^", "", 1)))
	}
}

// P15.2: each type in each block, by itself.
func TestDeclarations(t *testing.T) {
	for _, block := range declBlocks() {
		for _, ty := range types() {
			declares(t, block, ty, "^"+written(ty, "2", "", ""), api.OK)
			if block > api.BkPars && !isWhole(ty) {
				passes(t, titles()[block]+" { "+written(ty, "2", "", "")+" }")
			}
		}
	}
}

// P15.2: sizes of each kind.
func TestSizes(t *testing.T) {
	for _, a := range atoms() {
		for _, block := range declBlocks() {
			if a.needsPars() && block < api.BkPars {
				continue
			}
			for _, ty := range []uint8{api.TyVec, api.TyInts, api.TyReals} {
				var e api.Errno
				if a.ty != api.TyInt {
					e = api.ErrType
				}
				declares(t, block, ty, written(ty, "^"+a.text, "", ""), e)
				if a.isScalar() {
					declares(t, block, ty, written(ty, "^size(v * ("+a.text+"))", "", ""), api.OK)
				} else {
					declares(t, block, ty, written(ty, "k[^"+a.text+"]", "", ""), api.ErrType)
				}
			}
		}
	}
}

// wantBound is what a bound of a variable has to be.
func wantBound(block int, ty uint8, a atom) api.Errno {
	switch {
	case block != api.BkData && block != api.BkPars, !a.isScalar(), isWhole(ty) && a.ty != api.TyInt, block == api.BkData && a.isInexact:
		return api.ErrType
	case a.par:
		return api.ErrLevel
	}
	return api.OK
}

// P15.2: bounds of each kind, in each block, of each type.
func TestBounds(t *testing.T) {
	for _, a := range atoms() {
		for _, block := range declBlocks() {
			if a.needsPars() && block < api.BkPars {
				continue
			}
			for _, ty := range types() {
				e := wantBound(block, ty, a)
				one := wantBound(block, ty, atom{ty: api.TyInt})
				declares(t, block, ty, written(ty, "2", "lower = ^"+a.text, ""), e)
				declares(t, block, ty, written(ty, "2", "upper = ^"+a.text, ""), e)
				declares(t, block, ty, written(ty, "2", "lower = ^"+a.text+", upper = "+a.text, ""), e)
				if one == api.OK {
					declares(t, block, ty, written(ty, "2", "lower = 1, upper = ^"+a.text, ""), e)
				} else {
					declares(t, block, ty, written(ty, "2", "lower = ^1, upper = "+a.text, ""), one)
				}
			}
		}
	}
}

// P15.2: what data's bounds may not call, at all depths, and what else may.
func TestExactBounds(t *testing.T) {
	for _, f := range []string{"exp", "log", "sqrt", "inv_logit"} {
		call := "^" + f + "(1)"
		for _, around := range []string{"^", "-^", "1 + ^", "^ - 1", "2 * ^", "^ / n", "square(^)", "v[1] - ^", "size(v * ^)", "sum(v * ^)", "dot(v, v / ^)", "k[size(v * ^)]", "-(1 - (2 - square(-^)))", "^ + exp(2)", "^ * log(r)", "^ - sqrt(r)", "^ / inv_logit(r)", "square(1) + ^", "log(^)", "exp(^)"} {
			s := strings.Replace(around, "^", call, 1)
			fails(t, api.ErrType, inBlock(api.BkData, "real<lower = "+s+"> q;"), inBlock(api.BkData, "real<upper = "+s+"> q;"), inBlock(api.BkData, "array[2] real<lower = 1, upper = "+s+"> q;"), inBlock(api.BkData, "vector<lower = "+s+">[2] q;"))
			s = strings.Replace(s, "^", "", 1)
			passes(t, inBlock(api.BkPars, "real<lower = "+s+"> q;"), inBlock(api.BkPars, "vector<upper = "+s+">[n] q;"), inBlock(api.BkMade, "real q = "+s+";"))
		}
		fails(t, api.ErrType, inBlock(api.BkData, "int<lower = size("+strings.Replace(call, "1", "v", 1)+")> q;"), inBlock(api.BkData, "array[2] int<upper = n + k[size(v * "+call+")]> q;"))
		// Of data, too, a size may; and so may what is no bound.
		passes(t, inBlock(api.BkData, "vector[size("+f+"(v))] q;"), inBlock(api.BkData, "array[k[size(v * "+f+"(2))]] int q;"))
		passes(t, "data { real "+f+"; real<lower = "+f+", upper = square("+f+")> q; }", "data { vector[2] "+f+"; real<lower = "+f+"[1]> q; }")
		// That it is no scalar, or no integer, comes first.
		fails(t, api.ErrType, inBlock(api.BkData, "real<lower = ^(v * "+f+"(1))> q;"), inBlock(api.BkData, "int<lower = ^(1 + "+f+"(1))> q;"), inBlock(api.BkData, "array[2] int<upper = ^(-"+f+"(1))> q;"))
		fails(t, api.ErrName, inBlock(api.BkData, "real<lower = "+f+"(^a)> q;"), inBlock(api.BkData, "real<lower = "+f+"(1) + ^a> q;"))
		fails(t, api.ErrType, inBlock(api.BkData, "real<lower = ^"+f+"(1), upper = a> q;"), inBlock(api.BkData, "real<lower = ^"+f+"()> q;"))
	}
	for _, s := range []string{"square(n)", "sum(v)", "size(v)", "dot(v, v)", "sum(k) * size(y)", "-square(r) / sum(y)"} {
		passes(t, inBlock(api.BkData, "real<lower = "+s+", upper = "+s+"> q;"))
	}
	passes(t, inBlock(api.BkData, "int<lower = sum(k), upper = size(v)> q; real<lower = q> p;"))
}

// P15.2: initial values of each kind.
func TestInits(t *testing.T) {
	for _, a := range atoms() {
		for _, block := range []int{api.BkMade, api.BkTurned, api.BkGenerated} {
			if a.needsPars() && block < api.BkPars {
				continue
			}
			for _, ty := range []uint8{api.TyInt, api.TyReal, api.TyVec} {
				var e api.Errno
				if a.ty != ty && !(ty == api.TyReal && a.isScalar()) {
					e = api.ErrType
				}
				declares(t, block, ty, written(ty, "2", "", " = ^"+a.text), e)
			}
		}
	}
}

// P15.2: names that are there already: of the same block, and of others.
func TestDoubles(t *testing.T) {
	for _, block := range declBlocks() {
		for _, ty := range types() {
			for _, name := range []string{"n", "r", "v", "k", "y"} {
				d := strings.Replace(written(ty, "2", "", ""), " q", " "+name, 1)
				fails(t, api.ErrDouble, inBlock(block, "^"+d))
			}
			d := written(ty, "2", "", "")
			if block >= api.BkPars && isWhole(ty) {
				continue
			}
			fails(t, api.ErrDouble, inBlock(block, d+" ^"+d), inBlock(block, d+" real p; ^real q;"))
			for _, next := range declBlocks() {
				if next > block {
					fails(t, api.ErrDouble, titles()[block]+" { "+d+" } "+titles()[next]+" { real p; ^real q; }")
					fails(t, api.ErrDouble, titles()[block]+" { "+d+" } "+titles()[next]+" { ^int q; }")
				}
			}
		}
	}
	passes(t, "data { int a; int b; int A; int aa; int a1; }")
	fails(t, api.ErrDouble, "data { int n; ^real n; }", "data { int n; ^real n; real n; int m; int m; }")
}

// P15.2: a variable exists behind its declaration, not in it.
func TestInItself(t *testing.T) {
	fails(t, api.ErrName, "transformed data { int q = ^q; }", "transformed data { real q = 1 + ^q; }", "transformed parameters { vector[2] q = -^q; }", "generated quantities { real q = exp(^q); }",
		"data { vector[^q] q; }", "data { array[^q[1]] int q; }", "data { array[size(^q)] real q; }", "transformed data { vector[2] q = ^q; }", "generated quantities { vector[2] q = ^q[1] * 2; }",
		"data { int<lower = ^q> q; }", "data { real<upper = ^q> q; }", "data { real<lower = 1, upper = 2 * ^q> q; }", "parameters { vector<lower = ^q[1]>[2] q; }", "parameters { array[3] real<upper = size(^q)> q; }",
		"data { vector[^p] q; int p; }", "transformed data { int q = ^p; int p = 1; }", "transformed data { int p = ^q; } parameters { real q; }", "data { vector[^q] q; } transformed data { int q; }")
	passes(t, "data { int q; vector[q] p; array[size(p)] real<lower = p[q]> o; }", "transformed data { int q = 1; int p = q; vector[p] o; vector[q] w = o; }")
}

// P15.2: which of several faults of a declaration it is.
func TestFirstOfDeclaration(t *testing.T) {
	fails(t, api.ErrDouble, "data { int n; ^vector<lower = a, upper = b>[c] n; }", "data { real R; } parameters { ^int R; }", "data { real R; } transformed parameters { ^array[a] int<lower = b> R; }")
	fails(t, api.ErrType, "parameters { ^array[a] int<lower = b, upper = c> q; }", "transformed parameters { ^int<lower = a> q = b; }", "generated quantities { ^int q = b; }", "generated quantities { ^int q = 1.5; }")
	// The size, then the lower bound, the upper one, the initial value.
	fails(t, api.ErrName, "data { vector<lower = a, upper = b>[^c] q; }", "data { vector<lower = ^a, upper = b>[2] q; }", "data { vector<lower = 1, upper = ^b>[2] q; }", "transformed data { vector<lower = 1>[^c] q = a; }", "transformed data { real q = ^a; }")
	fails(t, api.ErrType, "data { vector<lower = a, upper = b>[^1.5] q; }", "data { array[2] int<lower = ^1.5, upper = b> q; }", "transformed data { vector<lower = a>[^1.5] q = b; }")
	// Where no bounds may be, that comes ahead of what is wrong in them.
	fails(t, api.ErrType, "transformed data { real<lower = ^a> q; }", "transformed data { real<upper = ^f(a)> q = b; }", "transformed parameters { vector<lower = ^(1 * a)>[2] q; }", "generated quantities { real<lower = ^1, upper = a> q = b; }", "generated quantities { real<upper = ^1> q = b; }")
	// Within a bound: what is wrong in it, its type, what it depends on.
	fails(t, api.ErrName, "parameters { real R; real<lower = R * ^a> q; }", "parameters { vector[2] V; real<lower = V * ^a> q; }")
	fails(t, api.ErrType, "parameters { vector[2] V; real<lower = ^V> q; }", "parameters { real R; real<lower = R * ^exp()> q; }")
	fails(t, api.ErrLevel, "parameters { real R; real<lower = ^R, upper = a> q; }", "parameters { vector[2] V; array[2] real<upper = ^exp(V[1])> q; }", "parameters { real R; real<lower = ^R, upper = V> q; vector[a] p; }")
	fails(t, api.ErrType, "parameters { vector[2] V; real R; real<lower = ^V, upper = R> q; }", "parameters { real R; vector<lower = R>[^R] q; }")
	fails(t, api.ErrType, "transformed parameters { vector[2] q = ^1; real p = a; }")
}
