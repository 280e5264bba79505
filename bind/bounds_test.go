package bind_test

import (
	"math/big"
	"math/rand/v2"
	"slices"
	"strings"
	"testing"

	"stepstone/api"
	"stepstone/bind"
)

// P16.2: numbers at, below and above bounds, in scalars and rows.
func TestBounds(t *testing.T) {
	type declared struct{ before, behind, list, told string }
	for _, d := range []declared{
		{"int", "x", "", "int"}, {"real", "x", "", "real"}, {"vector", "[3] x", "[", "vector"}, {"array[3] int", "x", "[", "ints"}, {"array[3] real", "x", "[", "reals"},
	} {
		is := func(bounds string, n ...string) {
			t.Helper()
			for _, x := range n {
				data, want := x, x
				if d.list != "" {
					data, want = "["+x+", 3, 4]", x+" 3 4"
				}
				binds(t, "data { "+d.before+"<"+bounds+">"+d.behind+"; }", "x = "+data+";", "x "+d.told+" "+want)
			}
		}
		isNot := func(bounds string, n ...string) {
			t.Helper()
			for _, x := range n {
				all := []string{x}
				if d.list != "" {
					all = []string{"[" + x + ", 3, 4]", "[3, " + x + ", 4]", "[3, 4, " + x + "]", "[" + x + ", " + x + ", " + x + "]"}
				}
				for _, data := range all {
					fails(t, api.ErrBound, "data { ^"+d.before+"<"+bounds+">"+d.behind+"; }", "x = "+data+";")
				}
			}
		}
		is("lower=2", "2", "3", "5", "2147483648")
		isNot("lower=2", "1", "0", "-2", "-2147483648")
		is("upper=5", "5", "4", "0", "-2147483648")
		isNot("upper=5", "6", "7", "2147483648")
		is("lower=2, upper=5", "2", "3", "5")
		isNot("lower=2, upper=5", "1", "6", "-3")
		is("lower=-1", "-1", "0")
		is("lower=3, upper=4", "3", "4")
		isNot("lower=4, upper=3", "3", "4", "5", "0")
		is("lower=-999999999 * 2, upper=999999999 * 2", "1999999998", "-1999999998")
		isNot("lower=-999999999 * 2, upper=999999999 * 2", "1999999999", "-1999999999")
	}
	for _, c := range []string{"2.5", "2.50", "5 / 2", "25e-1", "square(1) * 2.5"} {
		binds(t, "data { real<lower="+c+"> x; }", "x = 2.5;", "x real 5/2")
		binds(t, "data { real<upper="+c+"> x; }", "x = 2.5;", "x real 5/2")
		binds(t, "data { real<lower="+c+", upper="+c+"> x; }", "x = 2.5;", "x real 5/2")
		fails(t, api.ErrBound, "data { ^real<lower="+c+"> x; }", "x = 2.4"+strings.Repeat("9", 300)+";")
		fails(t, api.ErrBound, "data { ^real<upper="+c+"> x; }", "x = 2.5"+strings.Repeat("0", 300)+"1;")
	}
	binds(t, "data { real<lower=1 / 3, upper=2 / 3> x; }", "x = 0.5;", "x real 1/2")
	fails(t, api.ErrBound, "data { ^real<lower=1 / 3> x; }", "x = 0.333333333333333333333333333333;")
	fails(t, api.ErrBound, "data { ^real<upper=1 / 3> x; }", "x = 0.333333333333333333333333333334;")
}

// P16.2: bounds by what was bound before; such that have no value, also of a row without elements.
func TestBoundsByValues(t *testing.T) {
	p := "data { int n; vector[n] v; real<lower=sum(v), upper=dot(v, v)> x; array[n] int<lower=-n, upper=size(v)> k; }"
	binds(t, p, "n = 2; v = [1, 1.5]; x = 3; k = [-2, 2];", "n int 2; v vector 1 3/2; x real 3; k ints -2 2")
	binds(t, p, "n = 2; v = [1, 1.5]; x = 2.5; k = [0, 0];", "n int 2; v vector 1 3/2; x real 5/2; k ints 0 0")
	binds(t, p, "n = 2; v = [1, 1.5]; x = 3.25; k = [0, 0];", "n int 2; v vector 1 3/2; x real 13/4; k ints 0 0")
	marked := strings.Replace(p, "real<", "^real<", 1)
	fails(t, api.ErrBound, marked, "n = 2; v = [1, 1.5]; x = 2.49; k = [-2, 2];")
	fails(t, api.ErrBound, marked, "n = 2; v = [1, 1.5]; x = 3.26; k = [-2, 2];")
	fails(t, api.ErrBound, strings.Replace(p, "array", "^array", 1), "n = 2; v = [1, 1.5]; x = 3; k = [2, -3];")
	fails(t, api.ErrBound, strings.Replace(p, "array", "^array", 1), "n = 2; v = [1, 1.5]; x = 3; k = [3, -2];")
	binds(t, p, "n = 0; v = []; x = 0; k = [];", "n int 0; v vector; x real 0; k ints")
	for _, s := range []string{"int n; real<lower=^1 / n> x;", "int n; real<upper=^1 / n> x;", "int n; real<lower=0, upper=1 + ^2 / (n - 0)> x;", "int n; vector<lower=^1 / n>[0] y;", "int n; vector<upper=^1 / n>[n] y;", "int n; array[n] real<lower=-1, upper=^n / n> y;", "int n; vector[n] y; real<lower=^y[1]> x;", "int n; array[0] int k; array[n] int<lower=^k[n]> y;", "int n; vector<lower=sum(^y0 / n)>[0] y;"} {
		if strings.Contains(s, "y0") {
			s = "vector[0] y0; " + s
		}
		fails(t, api.ErrRange, "data { "+s+" }", "n = 0; x = 0.5; y = []; k = []; y0 = [];")
	}
	for _, s := range []string{"int n; int<lower=^n + 1> x;", "int n; int<upper=^n * 2> x;", "int n; array[0] int<upper=^n + n> y;"} {
		fails(t, api.ErrRange, "data { "+s+" }", "n = 2147483648; x = 0; y = [];")
	}
	binds(t, "data { int n; real<upper=n + 1.0> x; }", "n = 2147483648; x = 2147483649;", "n int 2147483648; x real 2147483649")
	// Lower is looked at for all numbers, before Upper is computed.
	fails(t, api.ErrBound, "data { ^vector<lower=0, upper=1 / 0>[3] y; }", "y = [9, 9, -1];")
	fails(t, api.ErrRange, "data { vector<lower=0, upper=^1 / 0>[3] y; }", "y = [9, 9, 0];")
	fails(t, api.ErrRange, "data { vector<lower=^1 / 0, upper=0>[3] y; }", "y = [9, 9, 9];")
	fails(t, api.ErrRange, "data { vector<upper=^1 / 0>[3] y; }", "y = [9, 9, -1];")
}

// far are numbers that layer 6 can't multiply crosswise with most of each other.
func far(g *rand.Rand, bits int) []*big.Rat {
	var l []*big.Rat
	a, b := plus(pow2(bits), g.Int64N(1000)), plus(pow2(bits), -1-g.Int64N(1000))
	for _, x := range []*big.Rat{new(big.Rat).SetFrac(a, b), new(big.Rat).SetFrac(b, a), new(big.Rat).SetInt(b), new(big.Rat).SetFrac(big.NewInt(1), b), new(big.Rat).SetFrac(a, big.NewInt(3)), new(big.Rat).SetFrac(big.NewInt(3), a)} {
		l = append(l, x, new(big.Rat).Neg(x))
	}
	return l
}

func isFar(x, y *big.Rat) bool {
	return !areShort(times(x.Num(), y.Denom()), times(x.Denom(), y.Num()))
}

// What b is in, and c, which has the bound a as well.
const (
	ofScalar = "real<side=a> b;"
	ofRow    = "vector<side=a>[2] c;"
)

// isBeyond checks whether a number is beyond a bound: below it, or, with the sign 1, above.
func isBeyond(t *testing.T, decl string, bound, x *big.Rat, side int) {
	t.Helper()
	of := map[int]string{-1: "lower", 1: "upper"}[side]
	data := []api.Datum{one("a", normal(bound)), one("b", normal(x)), list("c", normal(bound), normal(x))}
	_, f := bind.Bind(parsed(t, "data { real a; "+strings.Replace(decl, "side", of, 1)+" }"), data)
	want := api.Fault{}
	if x.Cmp(bound) == side {
		want = api.Fault{E: api.ErrBound, At: 15}
	}
	if f != want {
		t.Errorf("%s, %s, of %s and %s: %s, want %s", decl, of, cut(toldNum(normal(bound))), cut(toldNum(normal(x))), shownFault(f), shownFault(want))
	}
}

// P16.2: bounds are exact also where layer 6 can't multiply the numbers crosswise.
func TestFarBounds(t *testing.T) {
	g := rand.New(rand.NewPCG(16, 3))
	l := slices.Concat(far(g, maxBits/2+100), far(g, maxBits/2+3000), []*big.Rat{{}, big.NewRat(1, 1), big.NewRat(-1, 2)})
	n := 0
	for _, bound := range l {
		for _, x := range l {
			if isFar(x, bound) && g.IntN(3) == 0 {
				n++
				isBeyond(t, oneOf(g, ofScalar, ofRow), bound, x, 2*g.IntN(2)-1)
			}
		}
	}
	if n < 60 {
		t.Errorf("%d pairs are far", n)
	}
	longest := []*big.Rat{new(big.Rat).SetFrac(allOnes(maxBits), plus(pow2(maxBits-1), 1)), new(big.Rat).SetFrac(plus(allOnes(maxBits), -2), plus(pow2(maxBits-1), 1)), new(big.Rat).SetFrac(plus(pow2(maxBits-1), 1), allOnes(maxBits))}
	for _, x := range longest {
		for _, side := range []int{-1, 1} {
			isBeyond(t, ofScalar, longest[0], x, side)
			isBeyond(t, ofRow, new(big.Rat).Neg(x), new(big.Rat).Neg(longest[0]), side)
		}
	}
}

// P16.2: and where they, and what is left of them, turned over, are near to each other for long.
func TestNearBounds(t *testing.T) {
	a, b := big.NewInt(1), big.NewInt(1)
	for b.BitLen() < maxBits/2+100 {
		a, b = b, new(big.Int).Add(a, b)
	}
	c := new(big.Int).Add(a, b)
	x, y, z := new(big.Rat).SetFrac(b, a), new(big.Rat).SetFrac(c, b), new(big.Rat).SetFrac(plus(b, 1), a)
	for i, c := range [][2]*big.Rat{{x, y}, {new(big.Rat).Neg(x), new(big.Rat).Neg(y)}, {x, z}, {x, x}} {
		if !isFar(c[0], c[1]) {
			t.Fatal("near numbers are too short")
		}
		isBeyond(t, ofScalar, c[0], c[1], 2*(i%2)-1)
	}
}

// below are the first number, one over the second number, one over the third, and so on.
func below(l ...*big.Int) *big.Rat {
	out := new(big.Rat).SetInt(l[len(l)-1])
	for _, n := range slices.Backward(l[:len(l)-1]) {
		out.Inv(out)
		out.Add(out, new(big.Rat).SetInt(n))
	}
	return out
}

// P16.2: and where nothing is left of one of them, while something is left of the other.
func TestEndingBounds(t *testing.T) {
	g := rand.New(rand.NewPCG(16, 5))
	a, b, c, d := plus(pow2(25000), 7), plus(pow2(26000), 5), plus(pow2(27000), 3), plus(pow2(38000), 1)
	more := func(n *big.Int) *big.Int { return plus(n, 1) }
	var l []*big.Rat
	for _, first := range []*big.Int{a, new(big.Int), new(big.Int).Neg(a)} {
		l = append(l, below(first, b, c), below(first, b, c, d), below(first, b, more(c)), below(first, more(b), c), below(more(first), b, c), below(first, b, c, more(d)), below(first, b), below(first, more(b), c, d))
	}
	n := 0
	for _, bound := range l {
		for _, x := range l {
			if isFar(bound, x) {
				n++
				isBeyond(t, oneOf(g, ofScalar, ofRow), bound, x, -1)
				isBeyond(t, ofScalar, bound, x, 1)
			}
		}
	}
	if n < 100 {
		t.Errorf("%d pairs are far", n)
	}
}

// P16.2: a source and its data can say as much.
func TestFarBoundsOfText(t *testing.T) {
	long := new(big.Rat).SetInt(new(big.Int).Exp(big.NewInt(10), big.NewInt(9999), nil))
	fails(t, api.ErrBound, "data { ^real<lower=1e9999 * 1e9999 * 1e9999> x; }", "x = 1e-9999;")
	binds(t, "data { real<lower=1e-9999 * 1e-9999 * 1e-9999> x; }", "x = 1e9999;", "x real "+toldNum(normal(long)))
	fails(t, api.ErrBound, "data { ^real<upper=1e-9999 * 1e-9999 * 1e-9999> x; }", "x = 1e9999;")
	binds(t, "data { real<upper=1e-9999 * 1e-9999 * 1e-9999> x; }", "x = -1e9999;", "x real "+toldNum(normal(long.Neg(long))))
}
