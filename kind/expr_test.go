package kind_test

import (
	"slices"
	"strings"
	"testing"

	"stepstone/api"
	"stepstone/kind"
)

// tuples are all rows of so many types.
func tuples(n int) [][]uint8 {
	if n == 0 {
		return [][]uint8{nil}
	}
	var out [][]uint8
	for _, l := range tuples(n - 1) {
		for _, ty := range types() {
			out = append(out, append(slices.Clone(l), ty))
		}
	}
	return out
}

// rowKey is how a table names kids of some types.
func rowKey(l []uint8) string {
	var out []string
	for _, ty := range l {
		out = append(out, words[ty])
	}
	return strings.Join(out, ",")
}

// kidsOf are names of variables of some types, of which some, by the bits of pars, are Par.
func kidsOf(l []uint8, pars int) []api.Expr {
	var out []api.Expr
	for i, ty := range l {
		e := name(ofType(ty, pars>>i&1 == 1))
		e.At = 100 + i
		out = append(out, e)
	}
	return out
}

// row checks what the table says of an expression with kids of some types.
func row(t *testing.T, e api.Expr, key string, l []uint8) {
	t.Helper()
	for pars := range 1 << len(l) {
		e.At, e.Kids = 7, kidsOf(l, pars)
		want, wantFault := api.Kind{}, api.Fault{E: api.ErrType, At: 7}
		if ty := typeOf(newTable()[key][rowKey(l)]); ty > 0 {
			want, wantFault = api.Kind{Type: ty, Par: pars > 0 && key != "size"}, api.Fault{}
		}
		if k, f := kind.Of(e, some()); k != want || f != wantFault {
			t.Errorf("%s of %s (%b): %v, %s, want %v, %s", key, rowKey(l), pars, k, shownFault(f), want, shownFault(wantFault))
		}
		checkExpr(t, e, some())
		inModelToo(t, e, pars)
	}
}

// inModelToo checks the same where the expression is a term of a program whose variables these are.
func inModelToo(t *testing.T, e api.Expr, pars int) {
	t.Helper()
	k, f := kind.Of(e, some())
	if slices.ContainsFunc(e.Kids, func(x api.Expr) bool { return x.Name == "N" || x.Name == "K" }) {
		return // which no program has
	}
	p := parsed(t, "data { int n; real r; vector[2] v; array[2] int k; array[2] real y; } parameters { real R; vector[2] V; array[2] real Y; } model { target += 1; }")
	p.Blocks[api.BkModel].Stmts[0].Kids[0] = e
	want := f
	if f.E == api.OK && k.Type > api.TyReal {
		want = api.Fault{E: api.ErrType, At: 7}
	}
	if got := kind.Check(p); got != want {
		t.Errorf("%s (%b) in a program: %s, want %s", shownExpr(e), pars, shownFault(got), shownFault(want))
	}
}

// P15.1: each row of the table, with each combination of kids.
func TestOperations(t *testing.T) {
	for _, l := range tuples(1) {
		row(t, ex(api.ExNeg, ""), "neg", l)
	}
	for _, l := range tuples(2) {
		for op := api.ExAdd; op <= api.ExDiv; op++ {
			row(t, ex(op, ""), opWords[op], l)
		}
	}
}

// P15.1: each function, of each combination of kids, of as many as it has, of fewer, and of more.
func TestFunctions(t *testing.T) {
	for _, f := range functions() {
		for n := range 5 {
			for _, l := range tuples(n) {
				if n == 4 && l[0] != l[3] {
					continue
				}
				row(t, ex(api.ExCall, f), f, l)
			}
		}
	}
}

// The chapter's table in its own words, of what is read.
func TestTable(t *testing.T) {
	for _, s := range []string{"n", "7", "-n", "n + 1", "n - n", "2 * n", "k[1]", "-k[n]", "sum(k)", "size(v)", "size(k)", "size(y)", "size(v * 2) + sum(k) * k[k[1]]"} {
		gives(t, s, api.TyInt, false)
	}
	for _, s := range []string{"r", "1.5", "-r", "n + r", "r - 1", "r + r", "n * r", "n / n", "1 / 2", "r / n", "v[1]", "y[n]", "exp(n)", "exp(r)", "square(2)", "log(1)", "sqrt(n)", "inv_logit(r)", "sum(v)", "sum(y)", "sum(exp(v))", "dot(v, v)", "dot(v + v, -v / 2)", "-(n / 1)"} {
		gives(t, s, api.TyReal, false)
	}
	for _, s := range []string{"v", "-v", "v + v", "v - v", "v * n", "n * v", "v * r", "r * v", "v / n", "v / r", "exp(v)", "log(v)", "sqrt(v)", "square(v)", "inv_logit(v)", "v * sum(k) / sum(y)"} {
		gives(t, s, api.TyVec, false)
	}
	gives(t, "k", api.TyInts, false)
	gives(t, "y", api.TyReals, false)
	failsExpr(t, api.ErrType, "^v * v", "^n / v", "^r / v", "^v + n", "^n + v", "^r - v", "^v - r", "^v / v", "^-k", "^-y", "^k + k", "^y + y", "^y * 2", "2 + ^(y * 2)", "^k / 2", "^exp(k)", "^exp(y)", "^sum(n)", "^sum(r)", "^dot(y, y)", "^dot(v, y)", "^dot(k, k)", "^dot(v, n)", "^size(n)", "^size(r)", "^size(1)", "^size(v[1])",
		"^exp()", "^exp(n, n)", "^sum()", "^sum(v, v)", "^dot()", "^dot(v)", "^dot(v, v, v)", "^size()", "^size(v, v)", "^square()", "^inv_logit(r, r)", "n + ^log()", "-^sqrt(v, v)", "k[^exp(1, 2)]")
}

// P15.1: numerals of so many digits, and with a dot, or an e.
func TestNumerals(t *testing.T) {
	for n := 1; n < 30; n++ {
		want := api.TyInt
		if n > 9 {
			want = api.TyReal
		}
		for _, digit := range []string{"0", "1", "9"} {
			gives(t, strings.Repeat(digit, n), want, false)
			gives(t, "-"+strings.Repeat(digit, n), want, false)
		}
		gives(t, strings.Repeat("0", n-1)+"7", want, false)
		gives(t, "7"+strings.Repeat("0", n-1), want, false)
		for _, more := range []string{".0", "e0", "e+1", "e-1", ".5e1", ".123456789"} {
			gives(t, strings.Repeat("1", n)+more, api.TyReal, false)
		}
	}
	for _, s := range []string{"1234567.8", "1234567.89", "12345678.9", "1234567e1", "1e1", "1.0", "0e0", "0.0", "1e1234"} {
		gives(t, s, api.TyReal, false)
	}
	gives(t, strings.Repeat("1", 400), api.TyReal, false)
	gives(t, "k[123456789]", api.TyInt, false)
	failsExpr(t, api.ErrType, "k[^1234567890]", "k[^0000000001]", "v[^1.0]", "y[^1e0]")
	// A numeral need not come from a source, whose numbers are shorter.
	if k, f := kind.Of(num(strings.Repeat("1", 20000)), nil); k != (api.Kind{Type: api.TyReal}) || f != (api.Fault{}) {
		t.Error(k, f)
	}
}

// P15.1: names that are no functions, and names of variables that are functions' names.
func TestFunctionNames(t *testing.T) {
	for _, f := range functions() {
		args := "(v)"
		if f == "dot" {
			args = "(v, v)"
		}
		for _, s := range nextTo(f) {
			failsExpr(t, api.ErrName, "^"+s+args, "^"+s+"()", "1 + ^"+s+args, "size(^"+s+args+")")
		}
		failsExpr(t, api.ErrName, "^"+f, "^"+f+"[1]", "1 * ^"+f)
		e := ex(api.ExAdd, "", name(f), ex(api.ExCall, "sum", name("v")))
		if k, _ := checkExpr(t, e, append(some(), api.Var{Name: f, Type: api.TyInt, Par: true})); k != (api.Kind{Type: api.TyReal, Par: true}) {
			t.Errorf("a variable %s: %v", f, k)
		}
	}
	for _, s := range []string{"n", "neg", "add", "sub", "mul", "div", "index", "pow", "mean", "normal", "abs", "max", "e", "inv"} {
		failsExpr(t, api.ErrName, "^"+s+"(v)", "^"+s+"()", "^"+s+"(n, n)")
	}
}

// P15.1: elements: of which variables there are any, and of which kinds their indices may be.
func TestElements(t *testing.T) {
	index := map[string]api.Errno{"n": 0, "1": 0, "k[n]": 0, "size(V)": 0, "size(Y) * sum(k)": 0, "r": api.ErrType, "v": api.ErrType, "k": api.ErrType, "y": api.ErrType, "1.0": api.ErrType, "n / 1": api.ErrType, "R": api.ErrType, "V": api.ErrType, "Y": api.ErrType, "K": api.ErrType, "N": api.ErrLevel, "sum(K)": api.ErrLevel, "n * N": api.ErrLevel, "K[1]": api.ErrLevel}
	for i, e := range index {
		for _, v := range some() {
			at, want := 0, e
			if v.Type < api.TyVec {
				want = api.ErrType
			} else {
				at = 2
			}
			s := v.Name + "[" + i + "]"
			if want != api.OK {
				failsExpr(t, want, s[:at]+"^"+s[at:], "size(v * "+s[:at]+"^"+s[at:]+")", "1 - "+s[:at]+"^"+s[at:])
				continue
			}
			ty := api.TyReal
			if v.Type == api.TyInts {
				ty = api.TyInt
			}
			gives(t, s, ty, v.Par)
			gives(t, "-"+s, ty, v.Par)
			gives(t, "size(v * "+s+")", api.TyInt, false)
		}
		failsExpr(t, api.ErrName, "^x["+i+"]", "2 * ^size["+i+"]", "exp(^exp["+i+"])")
	}
	gives(t, "v[k[k[k[n]]]]", api.TyReal, false)
	failsExpr(t, api.ErrType, "v[k[^v[n]]]", "v[^v[k[n]]]", "k[^-y[1]]", "k[1 + ^size(n)]")
	failsExpr(t, api.ErrLevel, "v[^K[n]]", "v[k[^K[n]]]", "v[n + k[^(N)]]", "V[^(N + 1)]", "K[^-N]")
}

// P15.1: what depends on parameters does so everywhere, but in a call of size.
func TestPar(t *testing.T) {
	for _, s := range []string{"R", "-R", "R + 1", "1 + R", "1 - (2 - R)", "r * R", "R * r", "r / R", "R / r", "exp(R)", "sum(V)", "sum(Y)", "dot(V, v)", "dot(v, V)", "V[1]", "Y[n]", "size(v) * R", "size(V) + R", "sum(v * R)", "sum(-exp(V))", "V[size(V)]", "inv_logit(sqrt(log(square(R))))"} {
		gives(t, s, api.TyReal, true)
	}
	for _, s := range []string{"N", "K[1]", "sum(K)", "-N", "N * n", "n * N", "size(v) + N", "N - size(V)"} {
		gives(t, s, api.TyInt, true)
	}
	for _, s := range []string{"V", "-V", "V + v", "v + V", "R * v", "v * R", "v / R", "V / r", "exp(V)", "v * sum(Y)"} {
		gives(t, s, api.TyVec, true)
	}
	gives(t, "K", api.TyInts, true)
	gives(t, "Y", api.TyReals, true)
	for _, s := range []string{"size(V)", "size(K)", "size(Y)", "size(V * R)", "size(v * R)", "size(exp(V) + v)", "size(v * V[1])", "-size(V)", "size(V) + n", "k[size(V)]", "sum(k) * size(-V)", "size(v * size(V))", "size(v * sum(V))"} {
		gives(t, s, api.TyInt, false)
	}
	for _, s := range []string{"v[size(V)]", "exp(size(V))", "r * size(Y)", "y[size(V) - size(v * R)]"} {
		gives(t, s, api.TyReal, false)
	}
	gives(t, "v * size(V)", api.TyVec, false)
	// All of a deep expression, from one variable in it on.
	deep, plain := "R", "r"
	for _, around := range []string{"-^", "1 + ^", "^ - r", "2 * ^", "^ / n", "exp(^)", "sum(v * ^)", "dot(v, v / ^)", "(^) * size(V)", "v[1] - ^"} {
		deep, plain = strings.Replace(around, "^", "("+deep+")", 1), strings.Replace(around, "^", "("+plain+")", 1)
		gives(t, deep, api.TyReal, true)
		gives(t, plain, api.TyReal, false)
		gives(t, "size(v * ("+deep+"))", api.TyInt, false)
		gives(t, "v[size(v * ("+deep+"))]", api.TyReal, false)
	}
}

// P15.1: of several variables with one name the last one; without any.
func TestVariables(t *testing.T) {
	all := types()
	for i, a := range all {
		for j, b := range all {
			vars := []api.Var{{Name: "x", Type: a, Par: true}, {Name: "z", Type: a}, {Name: "x", Type: b, Block: -1}, {Name: "w", Type: a, Par: true}}
			for _, s := range []string{"x", "z", "w", "-x", "x * x", "x * w", "size(x)", "x[1]", "w[x]", "z[x + 1]", "sum(x)"} {
				checkExpr(t, parsedExpr(t, s), vars)
			}
			if k, f := kind.Of(name("x"), vars); k != (api.Kind{Type: b}) || f != (api.Fault{}) {
				t.Errorf("of %d and %d: %v, %s", i, j, k, shownFault(f))
			}
			slices.Reverse(vars)
			if k, f := kind.Of(name("x"), vars); k != (api.Kind{Type: a, Par: true}) || f != (api.Fault{}) {
				t.Errorf("of %d and %d backwards: %v, %s", i, j, k, shownFault(f))
			}
		}
	}
	for _, vars := range [][]api.Var{nil, {}, make([]api.Var, 0, 5), {{}}, {{Name: "X", Type: api.TyInt}, {Name: "xx", Type: api.TyInt}, {Name: "", Type: api.TyInt}}} {
		for _, s := range []string{"^x", "1 + ^x", "^x[1]", "exp(^x)", "size(^x)", "-^x * 2"} {
			s, at := marked(t, s)
			if k, f := checkExpr(t, parsedExpr(t, s), vars); k != (api.Kind{}) || f != (api.Fault{E: api.ErrName, At: at}) {
				t.Errorf("Of(%s) of %v: %v, %s", s, vars, k, shownFault(f))
			}
		}
		if k, f := checkExpr(t, parsedExpr(t, "1 + 2.5 * exp(3)"), vars); k != (api.Kind{Type: api.TyReal}) || f != (api.Fault{}) {
			t.Error(k, f)
		}
	}
}

// P15.1: which of a variable's blocks it is does not matter to Of.
func TestBlocksOfVariables(t *testing.T) {
	for _, block := range []int{-1 << 60, -2, -1, 0, 1, 2, 3, 4, 5, 6, 1 << 60} {
		for _, par := range []bool{false, true} {
			vars := []api.Var{{Name: "x", Type: api.TyVec, Block: block, Par: par}}
			if k, f := kind.Of(ex(api.ExIndex, "x", num("1")), vars); k != (api.Kind{Type: api.TyReal, Par: par}) || f != (api.Fault{}) {
				t.Errorf("block %d: %v, %s", block, k, shownFault(f))
			}
		}
	}
}

// R1: variables of what is no type: nothing is computed with them.
func TestNoTypes(t *testing.T) {
	for ty := range 256 {
		if ty >= int(api.TyInt) && ty <= int(api.TyReals) {
			continue
		}
		vars := append(some(), api.Var{Name: "x", Type: uint8(ty)})
		for _, s := range []string{"^-x", "^x + 1", "^(1 * x)", "^x / x", "^exp(x)", "^sum(x)", "^size(x)", "^dot(x, v)", "^x[1]", "k[^x]", "v[^x]"} {
			s, at := marked(t, s)
			if k, f := kind.Of(parsedExpr(t, s), vars); k != (api.Kind{}) || f != (api.Fault{E: api.ErrType, At: at}) {
				t.Errorf("Of(%s) of type %d: %v, %s", s, ty, k, shownFault(f))
			}
		}
	}
}

// P15.1: which of several faults it is: kids ahead of what they are in, the left one ahead of the right one; by the name, then by the types, then by what depends on parameters.
func TestFirstOfExpr(t *testing.T) {
	failsExpr(t, api.ErrName, "^a + b", "(n + ^a) * b", "-v * (r + ^a) + b", "f(^a)", "f(1, ^a, b)", "exp(v, ^a)", "dot(^a, b)", "v[^a]", "x[^a]", "v[k[^a]]", "n[^a]", "v * v[^a]", "size(^a)", "size(n, ^a)", "k + ^a", "r[^a + 1]",
		"^f(v)", "^f(R, N)", "^f()", "^f(1) + g(2)", "exp(^f(1))", "v[^f(1)]", "^x[r]", "^x[N]", "^x[1] + y[r]", "v[^x[r]]")
	failsExpr(t, api.ErrType, "^(v * v) + a", "f(^-k)", "f(1, ^exp(), a)", "exp(^exp())", "dot(^-k, -y)", "x[^-k]", "v[^-k]", "n[^exp()]", "v[k[^r]]", "x[k[^r]]", "^n[r]", "^n[N]", "^r[1]", "k[^r] + v[N]", "v[^-K]", "v[^(R)]", "size(^n[1])", "v[^size(n)]", "^(v + n) + N * v[N]")
	failsExpr(t, api.ErrLevel, "v[^N] + a", "v[^N] * v[r]", "x[v[^N]]", "f(v[^N])", "exp(v[^N], a)", "k[k[^N]]", "size(v * v[^N])", "-v * v[^N] * v", "n[v[^N]]")
	// A row that is none comes ahead of an index that is wrong, but behind what is wrong in that.
	failsExpr(t, api.ErrType, "^n[r]", "^n[N]", "^n[1.5]", "n[^-k]", "r[1 + ^size(r)]", "^N[v]")
}
