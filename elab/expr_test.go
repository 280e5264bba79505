package elab_test

import (
	"strconv"
	"strings"
	"testing"

	"stepstone/api"
	"stepstone/elab"
)

// given are a variable of each type, of data, and parameters: a scalar and rows.
const (
	given     = "data { int n; real r; vector[2] y; array[2] int k; array[2] real q; vector[0] none; } parameters { real x; vector[2] v; array[2] real w; } "
	givenData = "n = 3; r = 0.5; y = [1.5, -2]; k = [4, 5]; q = [7, 1e2]; none = [];"
	// givenRow are the steps that there are before the model's: the parameters, and the target.
	givenRow  = "z = num 0; x = par; t = add z z; v1 = par; t = add t z; v2 = par; t = add t z; w1 = par; t = add t z; w2 = par; t = add t z;"
	givenTold = "; tell x x; tell v[1] v1; tell v[2] v2; tell w[1] w1; tell w[2] w2;"
)

// isScalar checks an expression's steps, the last one of which is e.
func isScalar(t *testing.T, expr, lines string) {
	t.Helper()
	makes(t, given+"model { target += "+expr+"; }", givenData, givenRow+lines+"; t = add t e; out t"+givenTold)
}

// isRow checks a row's steps, and which ones are its elements.
func isRow(t *testing.T, expr, lines string, elements ...string) {
	t.Helper()
	for i, s := range elements {
		lines += "; tell o[" + strconv.Itoa(i+1) + "] " + s
	}
	src := given + "generated quantities { vector[" + strconv.Itoa(len(elements)) + "] o = " + expr + "; }"
	head, told, is := strings.Cut(lines, "; tell")
	if is {
		told = "; tell" + told
	}
	makes(t, src, givenData, givenRow+head+"; out t"+givenTold+told)
}

// P22.1: numerals, names and elements: of data their numbers, and steps as they are.
func TestNames(t *testing.T) {
	isScalar(t, "2.50", "e = num 5/2")
	isScalar(t, "0.0", "e = num 0")
	isScalar(t, "1234567890", "e = num 1234567890")
	isScalar(t, "1e2", "e = num 100")
	isScalar(t, "r", "e = num 1/2")
	isScalar(t, "x", "e = as x")
	isScalar(t, "y[2]", "e = num -2")
	isScalar(t, "q[1]", "e = num 7")
	isScalar(t, "v[2]", "e = as v2")
	isScalar(t, "w[1]", "e = as w1")
	isScalar(t, "v[n - 2]", "e = as v1")
	isScalar(t, "w[size(y)]", "e = as w2")
	isRow(t, "y", "a = num 3/2; b = num -2", "a", "b")
	isRow(t, "v", "", "v1", "v2")
	isRow(t, "none", "")
}

// P22.1: integers are computed as such, and become a number where a step is needed.
func TestIntegers(t *testing.T) {
	for s, want := range map[string]string{
		"3": "3", "007": "7", "999999999": "999999999", "n": "3", "k[2]": "5", "-n": "-3", "n + 4": "7", "2 - n": "-1", "n * k[1]": "12",
		"sum(k)": "9", "size(y)": "2", "size(k)": "2", "size(q)": "2", "size(v)": "2", "size(none)": "0", "size(w)": "2",
		"-(n + 1) * 2 - sum(k)": "-17", "k[k[1] - n]": "4", "999999999 + 999999999": "1999999998",
	} {
		isScalar(t, s, "e = num "+want)
	}
	// Of two integers there is no quotient but that of steps.
	isScalar(t, "7 / 2", "a = num 7; b = num 2; e = div a b")
	isScalar(t, "n / n", "a = num 3; e = div a a")
}

// P22.1: an integer that is a kid becomes a step as soon as it is evaluated; but an index, and what an integer is computed of, becomes none.
func TestKidsInOrder(t *testing.T) {
	isScalar(t, "n + x", "a = num 3; e = add a x")
	isScalar(t, "x - n", "a = num 3; e = sub x a")
	isScalar(t, "n * (x * r)", "a = num 3; b = num 1/2; c = mul x b; e = mul a c")
	isScalar(t, "(x * r) * n", "b = num 1/2; c = mul x b; a = num 3; e = mul c a")
	isScalar(t, "(n + 1) * 2 / x", "a = num 8; e = div a x")
	isScalar(t, "(n + r) + (k[1] + x)", "a = num 3; b = num 1/2; c = add a b; d = num 4; f = add d x; e = add c f")
	isScalar(t, "exp(n) - log(2)", "a = num 3; b = exp a; c = num 2; d = log c; e = sub b d")
	isScalar(t, "v[n - 1] + 9", "a = num 9; e = add v2 a")
	isScalar(t, "x + x * x / x - x", "a = mul x x; b = div a x; c = add x b; e = sub c x")
	isScalar(t, "9 + size(8 * v)", "a = num 8; b = mul a v1; c = mul a v2; e = num 11")
	isScalar(t, "x * size(8 * v)", "a = num 8; b = mul a v1; c = mul a v2; d = num 2; e = mul x d")
}

// P22.1: each operation and each function, of scalars.
func TestScalars(t *testing.T) {
	isScalar(t, "-x", "e = neg x")
	isScalar(t, "--x", "a = neg x; e = neg a")
	isScalar(t, "x + r", "a = num 1/2; e = add x a")
	isScalar(t, "x - r", "a = num 1/2; e = sub x a")
	isScalar(t, "x * r", "a = num 1/2; e = mul x a")
	isScalar(t, "x / r", "a = num 1/2; e = div x a")
	isScalar(t, "exp(x)", "e = exp x")
	isScalar(t, "log(x)", "e = log x")
	isScalar(t, "sqrt(x)", "e = root x")
	isScalar(t, "square(x)", "e = mul x x")
	isScalar(t, "square(n)", "a = num 3; e = mul a a")
	isScalar(t, "inv_logit(x)", "a = num 1; b = neg x; c = exp b; d = add a c; e = div a d")
	isScalar(t, "inv_logit(n)", "f = num 3; a = num 1; b = neg f; c = exp b; d = add a c; e = div a d")
	isScalar(t, "x / 0", "e = div x z")
	isScalar(t, "log(-1)", "a = num -1; e = log a")
}

// P22.1: each operation and each function, of rows: element by element, a scalar with each.
func TestRows(t *testing.T) {
	isRow(t, "-v", "a = neg v1; b = neg v2", "a", "b")
	isRow(t, "v + y", "c = num 3/2; d = num -2; a = add v1 c; b = add v2 d", "a", "b")
	isRow(t, "y - v", "c = num 3/2; d = num -2; a = sub c v1; b = sub d v2", "a", "b")
	isRow(t, "v * x", "a = mul v1 x; b = mul v2 x", "a", "b")
	isRow(t, "x * v", "a = mul x v1; b = mul x v2", "a", "b")
	isRow(t, "n * v", "c = num 3; a = mul c v1; b = mul c v2", "a", "b")
	isRow(t, "v / x", "a = div v1 x; b = div v2 x", "a", "b")
	isRow(t, "v / 0", "a = div v1 z; b = div v2 z", "a", "b")
	isRow(t, "exp(v)", "a = exp v1; b = exp v2", "a", "b")
	isRow(t, "log(v)", "a = log v1; b = log v2", "a", "b")
	isRow(t, "sqrt(v)", "a = root v1; b = root v2", "a", "b")
	isRow(t, "square(v)", "a = mul v1 v1; b = mul v2 v2", "a", "b")
	isRow(t, "inv_logit(v)", "i = num 1; c = neg v1; d = exp c; f = add i d; a = div i f; g = neg v2; h = exp g; j = add i h; b = div i j", "a", "b")
	isRow(t, "v + v + v", "c = add v1 v1; d = add v2 v2; a = add c v1; b = add d v2", "a", "b")
	// A row without elements: its kids' steps are made, and no others.
	isRow(t, "none * r", "a = num 1/2")
	isRow(t, "8 * none", "a = num 8")
	isRow(t, "none / 8", "a = num 8")
	isRow(t, "inv_logit(none)", "")
	isRow(t, "none + none", "")
}

// P22.1: sums begin with 0, and are made from the first element on.
func TestSums(t *testing.T) {
	isScalar(t, "sum(v)", "a = add z v1; e = add a v2")
	isScalar(t, "sum(w)", "a = add z w1; e = add a w2")
	isScalar(t, "sum(q)", "a = num 7; b = num 100; c = add z a; e = add c b")
	isScalar(t, "sum(v * 2)", "a = num 2; b = mul v1 a; c = mul v2 a; d = add z b; e = add d c")
	isScalar(t, "sum(none)", "e = num 0")
	isScalar(t, "dot(v, y)", "c = num 3/2; d = num -2; a = mul v1 c; b = add z a; f = mul v2 d; e = add b f")
	isScalar(t, "dot(v, v)", "a = mul v1 v1; b = add z a; f = mul v2 v2; e = add b f")
	isScalar(t, "dot(none, none)", "e = num 0")
}

// P22.1: a step that there is already is not made again, and a row that was set is what it was set to.
func TestSharing(t *testing.T) {
	isScalar(t, "(x + 1) * (x + 1)", "a = num 1; b = add x a; e = mul b b")
	isScalar(t, "y[1] + r + (y[1] + r)", "a = num 3/2; b = num 1/2; c = add a b; e = add c c")
	makes(t, "parameters { vector[2] v; } transformed parameters { vector[2] a = v; vector[2] b = a; vector[2] c; a[1] = b[2]; c = a; a = b; b[2] = 7; }", "",
		"z = num 0; v1 = par; t = add z z; v2 = par; t = add t z; s = num 7; out t; tell v[1] v1; tell v[2] v2; tell a[1] v1; tell a[2] v2; tell b[1] v1; tell b[2] s; tell c[1] v2; tell c[2] v2")
	makes(t, "data { vector[2] y; } transformed data { vector[2] a; vector[2] b = y; a[1] = y[2]; b[2] = a[1] * 3; a = y; } generated quantities { vector[2] c = a; vector[2] d = b; vector[2] e = y; }", "y = [4, 5];",
		"z = num 0; y1 = num 4; y2 = num 5; b = num 3; c = mul y2 b; tell c[1] y1; tell c[2] y2; tell d[1] y1; tell d[2] c; tell e[1] y1; tell e[2] y2; out z")
}

// P22.1: the size of a name is known whether its elements are set or not; that of another row is known when it is evaluated.
func TestSizes(t *testing.T) {
	makes(t, "transformed data { vector[3] u; array[4] int k; array[5] real w; int n = size(u) * 100 + size(k) * 10 + size(w); } model { target += n; }", "",
		"z = num 0; a = num 345; t = add z a; out t")
	fails(t, api.ErrUnset, "transformed data { vector[3] u; int n = size(-^u); }", "")
	fails(t, api.ErrUnset, "transformed data { vector[3] u; int n; u[1] = 1; u[3] = 2; n = size(2 * ^u); }", "")
	fails(t, api.ErrRange, "data { vector[2] a; vector[3] b; } model { target += size(^a + b); }", "a = [1, 2]; b = [1, 2, 3];")
	fails(t, api.ErrRange, given+"model { target += x + size(^v - none); }", givenData)
	makes(t, given+"model { target += size(exp(v)) * 1000; }", givenData, givenRow+"a = exp v1; b = exp v2; e = num 2000; t = add t e; out t"+givenTold)
}

// P22.1: ErrRange at an index's, an integer's, a row's place.
func TestRange(t *testing.T) {
	for _, s := range []string{
		"^v[0]", "^v[3]", "^v[-1]", "^v[n]", "^k[0]", "^k[3]", "^y[3]", "^y[1 - 1]", "^none[1]", "^w[3]", "^q[size(v) + 1]",
		"x + ^v[3]", "sum(v) * ^k[9]", "v[^k[3]]", "k[1 + ^k[0]]", "exp(^v[2 + 1])", "^v[999999999]", "^v[-999999999]",
		"sum(^v + none)", "sum(^none - v)", "size(^y + none)", "sum(2 * (^none + y + v))", "sum(v + v + v - -^(none + y))",
	} {
		fails(t, api.ErrRange, given+"model { target += "+s+"; }", givenData)
	}
	fails(t, api.ErrRange, given+"model { target += ^dot(v, none); }", givenData)
	fails(t, api.ErrRange, given+"model { target += ^dot(none, y); }", givenData)
	fails(t, api.ErrRange, given+"model { target += 1 - ^dot(v + y, none / 2); }", givenData)
}

// P22.1: integers are from -MaxInt to MaxInt.
func TestIntegersRange(t *testing.T) {
	const head = "data { int m; int l; array[3] int k; } "
	const data = "m = 2147483648; l = -2147483648; k = [2147483648, 2147483648, -2147483648];"
	for s, want := range map[string]string{
		"m": "2147483648", "l": "-2147483648", "-m": "-2147483648", "-l": "2147483648", "m + l": "0", "m - 1 + 1": "2147483648", "sum(k)": "2147483648", "65536 * 32768": "2147483648", "-65536 * 32768": "-2147483648", "k[3] * -1": "2147483648",
	} {
		makes(t, head+"model { target += "+s+"; }", data, "z = num 0; e = num "+want+"; t = add z e; out t")
	}
	for _, s := range []string{"^m + 1", "^1 - l", "^l - 1", "^m - l", "^m * 2", "^m * m", "^l * m", "^65536 * 32769", "^-65536 * 32769", "1 + ^(m + m) - m", "k[^m + 1]"} {
		fails(t, api.ErrRange, head+"model { target += "+s+"; }", data)
	}
	fails(t, api.ErrRange, "data { array[3] int k; } model { target += ^sum(k); }", "k = [2147483648, 2147483648, -2147483647];")
	fails(t, api.ErrRange, "data { array[3] int k; } model { target += 1 + ^sum(k); }", "k = [-2147483648, 2147483647, -2147483648];")
	fails(t, api.ErrRange, "data { int n; } transformed data { int m = 3 - (2 + ^n * n); }", "n = 46341;")
	// As numbers they go on.
	makes(t, head+"model { target += m + 1.0; }", data, "z = num 0; a = num 2147483648; b = num 1; c = add a b; t = add z c; out t")
}

// P22.1: ErrUnset at the place of a name, or an element, that is not set; what is set can be read.
func TestUnset(t *testing.T) {
	for _, s := range []string{
		"real z; real w = ^z;", "int z; int w = 1 + ^z;", "int z; real w = ^z;", "vector[1] z; vector[1] w = ^z;", "array[2] int z; int w = sum(^z);", "array[2] real z; real w = sum(^z);",
		"vector[2] z; real w = ^z[2];", "array[2] int z; int w = ^z[1];", "array[1] real z; real w = 2 * ^z[1];", "int z; vector[^z] w;", "array[1] int z; vector[2 * ^z[1]] w;",
		"vector[2] z; z[1] = 1; z[2] = ^z[2];", "vector[2] z; z[1] = 1; z = ^z + z;", "vector[2] z; z[2] = 1; z = z[2] * ^z;", "array[2] int z; z[1] = 1; z[1] = sum(^z);", "array[3] real z; z[1] = 1; z[2] = 2; z[1] = sum(^z);",
		"real z; z = ^z;", "int z; for (i in ^z : 2) { }", "int z; for (i in 1 : ^z) { }", "int z; if (^z == z) { }", "int z; if (1 == ^z) { }",
		"vector[2] z; z[1] = 1; z[2] = dot(^z, z);",
	} {
		fails(t, api.ErrUnset, "transformed data { "+s+" }", "")
	}
	fails(t, api.ErrUnset, "transformed data { real z; } parameters { real<lower=^z> x; }", "")
	fails(t, api.ErrUnset, "transformed data { real z; } parameters { real<lower=0, upper=^z> x; }", "")
	fails(t, api.ErrUnset, "transformed data { real z; } model { target += ^z; }", "")
	fails(t, api.ErrUnset, "transformed data { real z; } model { 1.5 ~ normal(0, ^z); }", "")
	fails(t, api.ErrUnset, "transformed data { array[2] int z; z[2] = 1; } model { ^z ~ poisson(1); }", "")
	fails(t, api.ErrUnset, "parameters { real x; } transformed parameters { real z; real w; z = ^w; w = x; }", "")
	// A row without elements has none that is not set.
	makes(t, "transformed data { vector[0] z; vector[0] w = z; array[0] int k; array[0] real q; int n = sum(k); real s = sum(q); real d = dot(z, w); }", "", "z = num 0; out z")
	// The element is not there, whether it would be set or not; its index comes first.
	fails(t, api.ErrRange, "transformed data { vector[2] z; real w = ^z[3]; }", "")
	fails(t, api.ErrUnset, "transformed data { vector[2] z; int i; real w = z[^i]; }", "")
}

// P22.1: what layer 16 says of a number that layer 6 refuses holds here, too, as soon as it is evaluated.
func TestNumeralTooLong(t *testing.T) {
	long := strings.Repeat("1", 401)
	build := func(s string, want api.Fault) {
		t.Helper()
		var p api.Prog
		p.Blocks[api.BkModel] = api.Block{Is: true, Stmts: []api.Stmt{
			{Op: api.StIf, At: 1, Kids: []api.Expr{{Op: api.ExEq, At: 2, Kids: []api.Expr{{Op: api.ExNum, At: 3, Name: "0"}, {Op: api.ExNum, At: 4, Name: "1"}}}}, Body: []api.Stmt{{Op: api.StAdd, At: 5, Kids: []api.Expr{{Op: api.ExNum, At: 6, Name: s}}}}},
			{Op: api.StAdd, At: 7, Kids: []api.Expr{{Op: api.ExAdd, At: 8, Kids: []api.Expr{{Op: api.ExNum, At: 9, Name: "1"}, {Op: api.ExNum, At: 10, Name: s}}}}},
		}}
		if x, f := elab.Build(p, nil, 100); f != want || isNone(x) != (want.E != api.OK) {
			t.Errorf("%s: %s, want %s", s, shownFault(f), shownFault(want))
		}
	}
	build(long[1:], api.Fault{})
	build(long, api.Fault{E: api.ErrRange, At: 10})
	build("1."+long, api.Fault{E: api.ErrRange, At: 10})
}
