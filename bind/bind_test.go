package bind_test

import (
	"math/big"
	"slices"
	"strconv"
	"strings"
	"testing"

	"stepstone/api"
	"stepstone/bind"
)

// P16.2: ordinary programs with data, and the chapter's.
func TestPrograms(t *testing.T) {
	p := "data { int<lower=1> n; vector[n] y; }"
	binds(t, p, "n = 2; y = [1, 0.5];", "n int 2; y vector 1 1/2")
	binds(t, p, "y = [1, 0.5]; z = 7; n = 2;", "n int 2; y vector 1 1/2")
	fails(t, api.ErrBound, "data { ^int<lower=1> n; vector[n] y; }", "n = 0; y = [];")
	fails(t, api.ErrData, "data { int<lower=1> n; ^vector[n] y; }", "n = 2; y = [1];")
	binds(t, ordinaryProgram(), ordinaryData(), "n int 2; r real 5/2; v vector 1 -7/10; k ints 1 2 -1; y reals 0 3/2 -2; m real -3; w vector 1/2 1/4; j int 5; none ints; nothing vector")
	binds(t, "data { int n; real r; vector[3] v; array[2] int k; array[1] real y; }", "n = -7; r = 1e-2; v = [1, -2.50, 3e1]; k = [-1, 0]; y = [7];", "n int -7; r real 1/100; v vector 1 -5/2 30; k ints -1 0; y reals 7")
	// What comes behind data does not matter, and needs none.
	binds(t, "data { int n; } transformed data { int m = n; real z = exp(1) / 0; } parameters { real<lower=1 / 0> x; } model { target += x / 0; }", "n = 1; m = 5;", "n int 1")
	for _, s := range []string{"", "data { }", "parameters { real x; } model { target += x; }", "transformed data { int n = 1; }"} {
		for _, data := range []string{"", "n = 1;", "x = [1, 2.5];"} {
			binds(t, s, data, "")
		}
	}
	p2 := parsed(t, "data { int n; }")
	for _, data := range [][]api.Datum{nil, {}, make([]api.Datum, 0, 4)} {
		if l, f := bind.Bind(p2, data); l != nil || f != (api.Fault{E: api.ErrData, At: 7}) {
			t.Errorf("without data: %s, %s", toldAll(l), shownFault(f))
		}
		if l, f := bind.Bind(api.Prog{}, data); len(l) != 0 || f != (api.Fault{}) {
			t.Errorf("without a program: %s, %s", toldAll(l), shownFault(f))
		}
	}
}

// P16.2: programs that are not valid, ahead of all that is wrong with data.
func TestNoProgram(t *testing.T) {
	fails(t, api.ErrName, "data { vector[^n] y; }", "")
	fails(t, api.ErrDouble, "data { int n; ^int n; }", "n = 1.5;")
	fails(t, api.ErrType, "data { int n; vector[^n / 2] y; }", "y = 1;")
	fails(t, api.ErrType, "data { int n; real<lower=^exp(n)> y; }", "n = 1; y = 0;")
	fails(t, api.ErrType, "data { int<lower=^0.5> n; }", "n = 1;")
	fails(t, api.ErrLevel, "data { int n; } parameters { real a; real<lower=^a> b; }", "n = [];")
	fails(t, api.ErrName, "data { int n; } model { target += ^x; }", "n = 1;")
	fails(t, api.ErrName, "data { real<lower=1 / 0> n; } model { target += ^x; }", "n = 1;")
	fails(t, api.ErrType, "parameters { ^int x; }", "")
	var l []api.Prog
	for _, d := range []api.Decl{{}, {Type: api.TyInt}, {Type: 6, Name: "n"}, {Type: api.TyVec, Name: "n"}, {Type: api.TyInt, Name: "n", Size: []api.Expr{num("1")}}, {Type: api.TyInt, Name: "n", Init: []api.Expr{num("1")}}, {Type: api.TyInt, Name: "int"}, {Type: api.TyInt, Name: "n", Lower: []api.Expr{num("1"), num("2")}}, {Type: api.TyInt, Name: "n", Upper: []api.Expr{{}}}} {
		var p api.Prog
		d.At = 7
		p.Blocks[api.BkData] = api.Block{Is: true, Decls: []api.Decl{d}}
		l = append(l, p)
		p.Blocks[api.BkData].Decls = append(p.Blocks[api.BkData].Decls, api.Decl{Type: api.TyInt, Name: "none"})
		l = append(l, p)
	}
	absent := parsed(t, "data { int n; }")
	absent.Blocks[api.BkData].Is = false
	stmts := parsed(t, "data { int n; }")
	stmts.Blocks[api.BkData].Stmts = []api.Stmt{{Op: api.StBlock}}
	for _, p := range append(l, absent, stmts) {
		for _, data := range [][]api.Datum{nil, {one("n", ratio(1, 1))}, {{}}} {
			if l, f := bind.Bind(p, data); l != nil || f != (api.Fault{E: api.ErrTree}) {
				t.Errorf("%+v: %s, %s", p, toldAll(l), shownFault(f))
			}
		}
	}
}

// P16.2: sizes from 0 to MaxSize.
func TestSizes(t *testing.T) {
	zeros := func(n int) string { return "[" + strings.TrimSuffix(strings.Repeat("0,", n), ",") + "]" }
	for _, of := range []struct{ decl, told string }{{"vector[n] y", "vector"}, {"array[n] int y", "ints"}, {"array[n] real y", "reals"}} {
		p := "data { int n; " + of.decl + "; }"
		for _, n := range []int{0, 1, 2, 999, 1000} {
			binds(t, p, "n = "+strconv.Itoa(n)+"; y = "+zeros(n)+";", "n int "+strconv.Itoa(n)+"; y "+of.told+strings.Repeat(" 0", n))
			for _, m := range []int{n - 1, n + 1, n + 1000, 0} {
				if m >= 0 && m != n {
					fails(t, api.ErrData, "data { int n; ^"+of.decl+"; }", "n = "+strconv.Itoa(n)+"; y = "+zeros(m)+";")
				}
			}
		}
		bad := "data { int n; " + strings.Replace(of.decl, "n", "^n", 1) + "; }"
		if of.told != "vector" {
			bad = "data { int n; " + strings.Replace(of.decl, "[n", "[^n", 1) + "; }"
		}
		for _, n := range []string{"-1", "1001", "-1000", "2147483648", "-2147483648", "1000000000"} {
			// Also where there is no item, or one that is wrong.
			for _, y := range []string{"", " y = [];", " y = 1;", " y = [1.5];", " y = " + zeros(1001) + ";"} {
				fails(t, api.ErrRange, bad, "n = "+n+";"+y)
			}
		}
	}
	binds(t, "data { vector[3 - 1] y; }", "y = [1, 2];", "y vector 1 2")
	binds(t, "data { array[2] int k; vector[k[1] * k[2]] y; vector[size(y) + size(k)] z; vector[sum(k)] w; }", "k = [1, 1]; y = [5]; z = [1, 2, 3]; w = [0, 1];", "k ints 1 1; y vector 5; z vector 1 2 3; w vector 0 1")
	fails(t, api.ErrRange, "data { vector[^500 + 501] y; }", "y = [];")
	fails(t, api.ErrRange, "data { vector[^-1] y; }", "y = [];")
	fails(t, api.ErrRange, "data { array[2] int k; vector[^k[3]] y; }", "k = [1, 1]; y = [1];")
	fails(t, api.ErrRange, "data { array[2] int k; vector[1 + ^k[0]] y; }", "k = [1, 1]; y = [1];")
	fails(t, api.ErrRange, "data { int n; vector[^n + 1 - n] y; }", "n = 2147483648; y = [1];")
	fails(t, api.ErrRange, "data { vector[2] v; vector[size(^v / 0)] y; }", "v = [1, 2]; y = [1, 2];")
	for _, f := range inexact() {
		fails(t, api.ErrType, "data { vector[2] v; vector[size(^"+f+"(v))] y; }", "v = [1, 2]; y = [1, 2];")
		fails(t, api.ErrType, "data { vector[2] v; vector[1 + size(v * ^"+f+"(1))] y; vector[-1] z; }", "v = [1, 2];")
		fails(t, api.ErrRange, "data { vector[2] v; vector[size(v * ^v[3] + "+f+"(v))] y; }", "v = [1, 2];")
	}
	// A size comes ahead of its item, and of all that is declared behind it.
	fails(t, api.ErrRange, "data { int n; vector[^n] y; int m; }", "n = -1; m = 1.5;")
	fails(t, api.ErrData, "data { int n; ^int m; vector[n] y; }", "n = -1; m = 1.5;")
}

// P16.2: items that are not there, or of another form.
func TestItems(t *testing.T) {
	fails(t, api.ErrData, "data { ^int n; }", "")
	fails(t, api.ErrData, "data { ^int n; }", "N = 1; nn = 2; m = 3;")
	fails(t, api.ErrData, "data { int n; ^real r; }", "n = 1;")
	fails(t, api.ErrData, "data { int n; ^real r; int m; }", "n = 1; m = 1;")
	for _, s := range []string{"^int x", "^real x"} {
		fails(t, api.ErrData, "data { "+s+"; }", "x = [];")
		fails(t, api.ErrData, "data { "+s+"; }", "x = [1];")
		fails(t, api.ErrData, "data { "+s+"; }", "x = [1, 2];")
	}
	for _, s := range []string{"^vector[1] x", "^array[1] int x", "^array[1] real x", "^vector[0] x", "^array[0] int x"} {
		fails(t, api.ErrData, "data { "+s+"; }", "x = 1;")
		fails(t, api.ErrData, "data { "+s+"; }", "x = [1, 2];")
	}
	binds(t, "data { vector[1] x; array[1] int y; array[1] real z; }", "x = [1]; y = [2]; z = [3];", "x vector 1; y ints 2; z reals 3")
	// Items whose parts do not agree.
	for _, d := range []api.Datum{{Name: "x"}, {Name: "x", Whole: true}, {Name: "x", Whole: true, Nums: []api.Frac{}}, {Name: "x", Whole: true, Nums: []api.Frac{ratio(1, 1), ratio(2, 1)}}, {Name: "x", Nums: slices.Repeat([]api.Frac{ratio(1, 1)}, 1000)}, list("x"), list("x", ratio(1, 1))} {
		for _, s := range []string{"^int x", "^real x"} {
			failsItems(t, api.ErrData, "data { "+s+"; }", []api.Datum{d})
		}
	}
	failsItems(t, api.ErrData, "data { ^vector[1] x; }", []api.Datum{one("x", ratio(1, 1))})
	failsItems(t, api.ErrData, "data { ^vector[0] x; }", []api.Datum{{Name: "x"}})
	failsItems(t, api.ErrData, "data { ^vector[2] x; }", []api.Datum{{Name: "x", Nums: []api.Frac{ratio(1, 1), ratio(1, 1)}}})
	bindsItems(t, "data { vector[0] x; array[0] int y; array[0] real z; }", []api.Datum{{Name: "x", List: true}, {Name: "y", List: true, Whole: true, Nums: []api.Frac{}}, {Name: "z", List: true}}, "x vector; y ints; z reals")
	failsItems(t, api.ErrData, "data { ^array[0] int y; }", []api.Datum{{Name: "y", List: true}})
	// Where an item is there twice, layer 14 has the first one.
	bindsItems(t, "data { int n; }", []api.Datum{one("n", ratio(1, 1)), one("n", ratio(2, 1)), {Name: "n"}}, "n int 1")
	failsItems(t, api.ErrData, "data { ^int n; }", []api.Datum{list("n", ratio(1, 1)), one("n", ratio(2, 1))})
	failsItems(t, api.ErrBound, "data { ^int<lower=2> n; }", []api.Datum{one("n", ratio(1, 1)), one("n", ratio(2, 1))})
	// What no declaration names does not matter, whatever it is; nor where items are, and where they come from.
	bindsItems(t, "data { int n; } parameters { real x; }", []api.Datum{{}, {Name: "x"}, list("m", wrongNums()...), {Name: "n", At: -5, Whole: true, Nums: []api.Frac{ratio(4, 1)}}, {Name: "1", Nums: []api.Frac{{}}}}, "n int 4")
}

// P16.2: numbers of integers.
func TestIntegers(t *testing.T) {
	for _, n := range []string{"0", "1", "-1", "2147483647", "-2147483647", "2147483648", "-2147483648", "007", "-0"} {
		v := strconv.FormatInt(value("a", "int", n).Ints[0], 10)
		binds(t, "data { int n; array[1] int k; array[3] int j; }", "n = "+n+"; k = ["+n+"]; j = [5, "+n+", 1];", "n int "+v+"; k ints "+v+"; j ints 5 "+v+" 1")
	}
	for _, n := range []string{"2147483649", "-2147483649", "4294967296", "4294967297", "-4294967295", "9223372036854775807", "-9223372036854775808", "9223372036854775808", "18446744073709551616", "18446744073709551617", "-18446744073709551615", "1" + strings.Repeat("0", 300), "1.0", "1e0", "1.5", "0.5", "0.0", "-0.0", "2e3", "10e-1", "1e-1"} {
		fails(t, api.ErrData, "data { ^int n; }", "n = "+n+";")
		fails(t, api.ErrData, "data { ^array[1] int n; }", "n = ["+n+"];")
		fails(t, api.ErrData, "data { ^array[3] int n; }", "n = [1, "+n+", 2];")
		fails(t, api.ErrData, "data { ^array[3] int n; }", "n = [1, 2, "+n+"];")
		fails(t, api.ErrData, "data { ^int<lower=3> n; }", "n = "+n+";")
	}
	// By hand, Whole may say what is not so.
	for _, x := range []api.Frac{ratio(1, 2), ratio(-7, 3), ratio(3, 2), ratio(1<<31+1, 1), fracOf(plus(pow2(31), 1), big.NewInt(1)), fracOf(pow2(64), big.NewInt(1)), fracOf(plus(pow2(64), 1), big.NewInt(1)), ratio(1<<33, 3), fracOf(pow2(64), plus(pow2(64), -1)), fracOf(big.NewInt(1), plus(pow2(64), 1)), fracOf(big.NewInt(5), pow2(64))} {
		failsItems(t, api.ErrData, "data { ^int n; }", []api.Datum{one("n", x)})
		failsItems(t, api.ErrData, "data { ^array[2] int n; }", []api.Datum{list("n", ratio(1, 1), x)})
	}
	notWhole := api.Datum{Name: "n", Nums: []api.Frac{ratio(1, 1)}}
	failsItems(t, api.ErrData, "data { ^int n; }", []api.Datum{notWhole})
	bindsItems(t, "data { real n; }", []api.Datum{notWhole}, "n real 1")
	notWhole.List = true
	failsItems(t, api.ErrData, "data { ^array[1] int n; }", []api.Datum{notWhole})
	bindsItems(t, "data { array[1] real n; }", []api.Datum{notWhole}, "n reals 1")
	binds(t, "data { real r; vector[2] v; array[2] real y; }", "r = 2147483649; v = [1e300, 1e-300]; y = [1, 18446744073709551616];", "r real 2147483649; v vector 1"+strings.Repeat("0", 300)+" 1/1"+strings.Repeat("0", 300)+"; y reals 1 18446744073709551616")
}

// P16.2, R7: numbers that are not normal are bound as the same that are; such that are not valid aren't.
func TestNumbers(t *testing.T) {
	for _, x := range wrongNums() {
		source := "data { ^real r; }"
		if isValidNum(x) {
			want := toldNum(normal(ratOf(x)))
			bindsItems(t, "data { real r; vector[2] v; array[1] real y; }", []api.Datum{one("r", x), list("v", ratio(6, 4), x), list("y", x)}, "r real "+want+"; v vector 3/2 "+want+"; y reals "+want)
			if isFitting(ratOf(x)) {
				bindsItems(t, "data { int n; array[2] int k; }", []api.Datum{one("n", x), list("k", ratio(6, 2), x)}, "n int "+want+"; k ints 3 "+want)
			}
			continue
		}
		failsItems(t, api.ErrData, source, []api.Datum{one("r", x)})
		failsItems(t, api.ErrData, "data { ^int r; }", []api.Datum{one("r", x)})
		for _, s := range []string{"^vector[3]", "^array[3] int", "^array[3] real"} {
			failsItems(t, api.ErrData, "data { "+s+" r; }", []api.Datum{list("r", x, ratio(1, 1), ratio(1, 1))})
			failsItems(t, api.ErrData, "data { "+s+" r; }", []api.Datum{list("r", ratio(1, 1), ratio(1, 1), x)})
		}
		failsItems(t, api.ErrData, "data { ^real<lower=1 / 0> r; }", []api.Datum{one("r", x)})
	}
}

// P16.2: several faults: declarations in their order, in each the size, the item, the lower bound, the upper one.
func TestFirstOfBind(t *testing.T) {
	fails(t, api.ErrData, "data { ^int a; int<lower=5> b; vector[-1] c; }", "b = 1;")
	fails(t, api.ErrBound, "data { ^int<lower=5> a; int b; vector[-1] c; }", "a = 1;")
	fails(t, api.ErrRange, "data { vector[^-1] a; int b; int<lower=5> c; }", "c = 1;")
	fails(t, api.ErrData, "data { ^vector<lower=1 / 0>[2] a; }", "a = [1];")
	fails(t, api.ErrRange, "data { vector<lower=^1 / 0, upper=2 / 0>[2] a; }", "a = [1, 2];")
	fails(t, api.ErrRange, "data { vector<lower=1, upper=^2 / 0>[2] a; }", "a = [1, 2];")
	fails(t, api.ErrBound, "data { ^vector<lower=2, upper=2 / 0>[2] a; }", "a = [2, 1];")
	fails(t, api.ErrRange, "data { vector<lower=1 / 0, upper=2>[^-1] a; }", "a = [2, 1];")
	fails(t, api.ErrType, "data { vector[1] v; vector<lower=1 / 0>[size(^exp(v))] a; }", "v = [1]; a = 5;")
	fails(t, api.ErrData, "data { ^int<lower=5> a; }", "a = 1.5;")
	fails(t, api.ErrData, "data { ^int<upper=5> a; }", "a = 9999999999;")
	fails(t, api.ErrData, "data { int a; ^int<lower=5> b; }", "a = 1; b = [1];")
	// An item's place is not told.
	fails(t, api.ErrData, "data { ^int a; }", "zzzzzzzzzz = 1; a = 1.5;")
}
