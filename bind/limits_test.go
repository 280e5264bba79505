package bind_test

import (
	"math/big"
	"strconv"
	"strings"
	"testing"

	"stepstone/api"
	"stepstone/bind"
)

// P16.1: integers up to MaxInt, from -MaxInt on, and one beyond either; what is no integer has no such bounds.
func TestInts(t *testing.T) {
	l := append(some(), given("half int 1073741824; side int 65536; big ints 2147483648 1 -1; low ints -2147483648 -1; sums ints 2147483647 1; odd int 46341")...)
	for s, want := range map[string]string{
		"most":                            "int 2147483648",
		"-most":                           "int -2147483648",
		"least":                           "int -2147483648",
		"-least":                          "int 2147483648",
		"most + 0":                        "int 2147483648",
		"most - 1 + 1":                    "int 2147483648",
		"half + half":                     "int 2147483648",
		"-half - half":                    "int -2147483648",
		"half * 2":                        "int 2147483648",
		"half * -2":                       "int -2147483648",
		"2 * half":                        "int 2147483648",
		"side * 32768":                    "int 2147483648",
		"46341 * 46340":                   "int 2147441940",
		"least + most":                    "int 0",
		"most - most":                     "int 0",
		"0 - most":                        "int -2147483648",
		"0 - least":                       "int 2147483648",
		"most * -1":                       "int -2147483648",
		"least * 1":                       "int -2147483648",
		"sum(sums)":                       "int 2147483648",
		"sum(big)":                        "int 2147483648",
		"big[1]":                          "int 2147483648",
		"low[1]":                          "int -2147483648",
		"999999999 * 2":                   "int 1999999998",
		"999999999 + 999999999":           "int 1999999998",
		"most / 1 + 1":                    "real 2147483649",
		"most + 1.0":                      "real 2147483649",
		"1.0 + most":                      "real 2147483649",
		"square(most)":                    "real 4611686018427387904",
		"square(least)":                   "real 4611686018427387904",
		"square(most) * most":             "real 9903520314283042199192993792",
		"most * 1.0 * most":               "real 4611686018427387904",
		"most / least":                    "real -1",
		"1 / most":                        "real 1/2147483648",
		"least - 1.0":                     "real -2147483649",
		"2147483648":                      "real 2147483648",
		"2147483648 + most":               "real 4294967296",
		"0000000001 + most":               "real 2147483649",
		"sum(big) / 1 + sum(sums) / 1":    "real 4294967296",
		"square(odd) - odd":               "real 2147441940",
		"size(v) * (most - 2147483647.0)": "real 3",
	} {
		comes(t, l, s, want)
	}
	refuses(t, api.ErrRange, l,
		"^most + 1", "^1 + most", "^half + half + 1 + 1", "^half + (half + 1)", "^least - 1", "^least + -1", "^-1 + least", "^most - -1", "^-2 - most", "^most * 2", "^2 * most", "^most * most", "^least * least", "^most * least", "^least * most", "^side * side", "^odd * odd", "^-odd * odd",
		"^half * 3", "^999999999 * 3", "^0 - least + 1", "1 + ^(most + 1)", "^(most + 1) / 2", "^(most + 1) * 0.5", "1.0 * ^(most + 1)", "-^(most + 1)", "k[^most + 1]", "v[^least - 1]", "square(^most + 1)", "v * ^(most + 1)", "^(most + 1) * v", "^most * most / 1.0",
	)
	for _, c := range []struct {
		nums  string
		want  string
		isOut bool
	}{
		{"2147483648 1", "", true}, {"-2147483648 -1", "", true}, {"2147483648 1 -1", "2147483648", false}, {"-2147483648 -1 1", "-2147483648", false}, {"1 2147483648 -1", "2147483648", false},
		{"2147483648 2147483648", "", true}, {"2147483648 2147483648 -2147483648", "2147483648", false}, {"2147483648 -2147483648", "0", false}, {"-2147483648 -2147483648 2147483648 2147483648", "0", false},
	} {
		l := given("k ints " + c.nums)
		if c.isOut {
			refuses(t, api.ErrRange, l, "^sum(k)", "1 + ^sum(k)", "1 / ^sum(k)")
			continue
		}
		comes(t, l, "sum(k)", "int "+c.want)
	}
	thousand := long(api.TyInts, mostSize)
	for i := range thousand.Ints {
		thousand.Ints[i] = mostInt
	}
	refuses(t, api.ErrRange, []api.Value{thousand}, "^sum(a)", "-^sum(a)", "1 / ^sum(a)")
}

// P16.1: the elements of rows are counted from 1 on.
func TestIndices(t *testing.T) {
	l := append(some(), long(api.TyVec, mostSize))
	for s, want := range map[string]string{
		"v[1]": "real 1", "v[2]": "real 1/2", "v[3]": "real -3", "k[1]": "int 2", "k[3]": "int 5", "y[1]": "real 0", "y[3]": "real -1", "u[1]": "real 9",
		"v[n]": "real -3", "v[size(v)]": "real -3", "v[k[1]]": "real 1/2", "k[-k[2]]": "int 2", "v[n - 2]": "real 1", "v[000000002]": "real 1/2", "a[1000]": toldLast(), "a[k[1] * 500]": toldLast(),
	} {
		comes(t, l, s, want)
	}
	for _, row := range []string{"v", "k", "y"} {
		for _, i := range []string{"0", "4", "-1", "5", "1000", "-3", "zero", "most", "least", "n + 1", "-n", "999999999", "size(k) + 1"} {
			refuses(t, api.ErrRange, l, "^"+row+"["+i+"]", "1 + ^"+row+"["+i+"]", "size(v * ^"+row+"["+i+"])")
		}
	}
	refuses(t, api.ErrRange, l, "^u[0]", "^u[2]", "^none[1]", "^none[0]", "^nones[1]", "^nones[0]", "^empty[1]", "^empty[0]", "^a[0]", "^a[1001]", "^k[k[2]]", "v[^k[0]]", "^v[k[3]]", "v[1] + ^v[4] + v[5]", "k[^k[4] - 1]", "^none[1] * 0")
}

// toldLast is the last element of a row of MaxSize.
func toldLast() string {
	l := long(api.TyVec, mostSize).Nums
	return "real " + toldNum(l[mostSize-1])
}

// P16.1: nothing is divided by 0, however that is written, or comes about; also where nothing is there to be divided.
func TestDivisors(t *testing.T) {
	l := append(some(), given("z vector 0 1; zs ints 0 1")...)
	for _, zero := range []string{"0", "0.0", "0e5", "0000000000", "zero", "o", "-0", "-o", "n - 3", "n - n", "r - r", "1 / 3 - 2 / 6", "sum(none)", "sum(nones)", "sum(empty)", "dot(none, none)", "size(none)", "v[1] - 1", "k[1] - 2", "z[1]", "zs[1]", "0 / n", "0 * r", "square(o)", "y[1]"} {
		refuses(t, api.ErrRange, l, "^1 / ("+zero+")", "^n / ("+zero+")", "^r / ("+zero+")", "^v / ("+zero+")", "^zero / ("+zero+")", "^o / ("+zero+")", "^none / ("+zero+")", "size(^v / ("+zero+"))", "size(^none / ("+zero+"))", "2 - ^1 / ("+zero+")", "sum(^none / ("+zero+"))")
	}
	comes(t, l, "zero / n", "real 0")
	comes(t, l, "o / r", "real 0")
	comes(t, l, "none / r", "vector")
	comes(t, l, "z / 2", "vector 0 1/2")
	comes(t, l, "1 / (z[2] / 2)", "real 2")
}

// P16.1: rows of no element, of one, of MaxSize, and of two sizes.
func TestRows(t *testing.T) {
	l := append(some(), long(api.TyVec, mostSize), value("b", "vector", "1", "2"))
	for s, want := range map[string]string{
		"none": "vector", "nones": "ints", "empty": "reals",
		"none + none": "vector", "none - none": "vector", "none * 2": "vector", "r * none": "vector", "none / 2": "vector", "-none": "vector", "square(none)": "vector", "none * o": "vector",
		"sum(none)": "real 0", "sum(nones)": "int 0", "sum(empty)": "real 0", "dot(none, none)": "real 0", "size(none)": "int 0", "size(nones)": "int 0", "size(empty)": "int 0",
		"sum(none) + most": "real 2147483648", "sum(none) + most + 1": "real 2147483649", "1 + most * sum(none) + most": "real 2147483649", "most + dot(none, none) + 1": "real 2147483649", "most + sum(nones)": "int 2147483648",
		"size(v)": "int 3", "size(u)": "int 1", "size(a)": "int 1000", "size(a + a)": "int 1000", "size(-a * 2)": "int 1000", "sum(a - a)": "real 0", "sum(u)": "real 9", "dot(u, u)": "real 81", "u + u": "vector 18", "u * u[1]": "vector 81",
		"size(none * 2)": "int 0", "dot(v, v - v)": "real 0", "sum(v + w + v)": "real 2",
	} {
		comes(t, l, s, want)
	}
	refuses(t, api.ErrRange, l, "^most + sum(nones) + 1", "^sum(nones) + most + 1")
	rows := []string{"v", "u", "none", "a", "b"}
	for _, x := range rows {
		for _, y := range rows {
			if x == y {
				continue
			}
			refuses(t, api.ErrRange, l, "^"+x+" + "+y, "^"+x+" - "+y, "^dot("+x+", "+y+")", "size(^"+x+" + "+y+")", "1 / ^dot("+x+", "+y+")", "sum(2 * ^("+x+" - "+y+"))", "^"+x+" + -"+y)
		}
	}
}

// P16.1: numerals of nine digits and of ten, with a dot, with an e.
func TestNumerals(t *testing.T) {
	for n := 1; n < 30; n++ {
		want := "int "
		if n > 9 {
			want = "real "
		}
		comes(t, nil, strings.Repeat("9", n), want+strings.Repeat("9", n))
		comes(t, nil, strings.Repeat("0", n-1)+"7", want+"7")
		comes(t, nil, "-"+strings.Repeat("1", n), want+"-"+strings.Repeat("1", n))
		comes(t, nil, strings.Repeat("0", n), want+"0")
	}
	for s, want := range map[string]string{
		"0.0": "0", "1.0": "1", "0.5": "1/2", "2.50": "5/2", "1e0": "1", "1e2": "100", "1e+2": "100", "25e-2": "1/4", "0e0": "0", "0e9999": "0", "0.000e-9999": "0", "12345678.9": "123456789/10", "123456789.0": "123456789", "1234567890": "1234567890", "999999999e0": "999999999", "0.125e1": "5/4", "1e0002": "100",
		"1e30": "1" + strings.Repeat("0", 30), "1e-30": "1/1" + strings.Repeat("0", 30), "18446744073709551616": "18446744073709551616",
	} {
		comes(t, nil, s, "real "+want)
		comes(t, given("v vector 1"), "v[1] * "+s, "real "+want)
	}
	long := strings.Repeat("8", mostNumeral)
	comes(t, nil, long, "real "+long)
	comes(t, nil, "1e9999 / 1e9999", "real 1")
	comes(t, nil, "1e9999 * 1e-9999", "real 1")
	// A tree need not come from a source, whose numbers are shorter.
	for _, s := range []string{long + "8", long + "0", strings.Repeat("0", mostNumeral+1), "0." + strings.Repeat("0", mostNumeral), "1." + long, strings.Repeat("1", 20000)} {
		e := api.Expr{Op: api.ExNum, At: 9, Name: s}
		for _, e := range []api.Expr{e, ex(api.ExNeg, "", e), ex(api.ExMul, "", num("0"), e), ex(api.ExCall, "square", e), ex(api.ExAdd, "", e, ex(api.ExDiv, "", num("1"), num("0")))} {
			if v, f := checkExpr(t, e, nil); !isNone(v) || f != (api.Fault{E: api.ErrRange, At: 9}) {
				t.Errorf("a numeral of %d bytes: %s, %s", len(s), cut(told(v)), shownFault(f))
			}
		}
	}
}

// ofBits is a number of so many bits over one of so many, with no divisor in common.
func ofBits(n, d int) api.Frac {
	x := new(big.Rat).SetFrac(allOnes(n), pow2(d-1))
	return normal(x)
}

func scalar(name string, x api.Frac) api.Value {
	return api.Value{Name: name, Type: api.TyReal, Nums: []api.Frac{x}}
}

// P16.1: what layer 6 refuses as too long is ErrRange where it is computed; what is just not too long is not.
func TestTooLong(t *testing.T) {
	const half = maxBits / 2
	whole := func(n *big.Int) api.Frac { return fracOf(n, big.NewInt(1)) }
	long, top, least := whole(allOnes(maxBits)), whole(pow2(maxBits-1)), ofBits(1, maxBits)
	third := fracOf(big.NewInt(1), allOnes(maxBits))
	row := func(name string, ty uint8, l ...api.Frac) api.Value { return api.Value{Name: name, Type: ty, Nums: l} }
	l := []api.Value{
		scalar("a", ofBits(half, 1)), scalar("b", ofBits(half+1, 1)), scalar("c", ofBits(1, half)), scalar("d", ofBits(1, half+1)),
		scalar("m", long), scalar("p", top), scalar("q", least), scalar("third", third),
		row("v", api.TyVec, ratio(1, 2), long), row("w", api.TyVec, least, ratio(5, 1)), row("y", api.TyReals, long, ratio(1, 1), ratio(-1, 1)),
		row("z", api.TyVec, ratio(-1, 1), long, ratio(1, 1)), row("ones", api.TyVec, ratio(1, 1), ratio(1, 1), ratio(1, 1)),
	}
	text := func(n, d *big.Int) string { return "real " + toldNum(fracOf(n, d)) }
	one := big.NewInt(1)
	for s, want := range map[string]string{
		"a * a":        text(times(allOnes(half), allOnes(half)), one),
		"square(a)":    text(times(allOnes(half), allOnes(half)), one),
		"c * d":        text(one, pow2(maxBits-1)),
		"square(c)":    text(one, pow2(maxBits-2)),
		"m - 1":        text(plus(allOnes(maxBits), -1), one),
		"m - m":        "real 0",
		"m / m":        "real 1",
		"m * 0":        "real 0",
		"-m":           text(new(big.Int).Neg(allOnes(maxBits)), one),
		"-m + 1 - 1":   text(new(big.Int).Neg(allOnes(maxBits)), one),
		"1 / q":        text(pow2(maxBits-1), one),
		"m * q":        text(allOnes(maxBits), pow2(maxBits-1)),
		"p - 1 + p":    text(allOnes(maxBits), one),
		"sum(z)":       text(allOnes(maxBits), one),
		"dot(z, ones)": text(allOnes(maxBits), one),
		"m * third":    "real 1",
	} {
		comes(t, l, s, want)
	}
	refuses(t, api.ErrRange, l,
		"^m + 1", "^1 + m", "^m + m", "^-m - 1", "^p + p", "^q - third", "^q + third", "^third + q", "^q - q",
		"^m * 2", "^2 * m", "^p * 2", "^b * b", "^m * m", "^d * d", "^q * 0.5", "^q * q", "^third * 0.2",
		"^m / 0.5", "^2 / q", "^q / 2", "^m / q", "^b / d", "^1 / q * 2", "^1 / third + 1",
		"^square(b)", "^square(m)", "^square(d)", "^square(q)", "^square(v)", "^square(w)",
		"^v * 2", "^2 * v", "^v / 0.5", "^w * 0.5", "^w / 2", "^v + v", "^v - -v", "^z + ones",
		"^sum(y)", "1 + ^sum(y)", "^dot(v, v)", "^dot(w, w)", "^dot(z, z)", "size(^v * 2)", "0 * ^(m + 1)", "-^(m * 2) + 1 / 0", "sum(^v * 2) - m * m",
	)
}

// P16.1: exp, log, sqrt and inv_logit have no value, anywhere.
func TestInexact(t *testing.T) {
	l := some()
	for _, f := range inexact() {
		for _, s := range []string{
			"^f(1)", "^f(0)", "^f(r)", "^f(n)", "^f(v)", "^f(none)", "^f(-1)", "-^f(1)", "1 + ^f(1)", "^f(1) + 1", "^f(1) * 0", "0 * ^f(1)", "1 / ^f(1)", "^f(1) / 0", "v * ^f(1)", "^f(v) + v", "v - ^f(v)", "sum(^f(v))", "size(^f(v))", "size(^f(none))", "dot(v, ^f(v))", "dot(^f(v), none)", "square(^f(1))",
			"v[size(^f(v))]", "k[1 + size(^f(v))]", "^f(1) + 1 / 0", "f(^f(1))", "f(^log(1))", "exp(^f(1))", "f(v[size(^f(v))])", "v[4 - size(^f(v))]", "size(v + ^f(v)) + k[9]", "^f(1 / 2)", "none * ^f(1)",
		} {
			refuses(t, api.ErrType, l, strings.ReplaceAll(s, "f(", f+"("))
		}
		for _, s := range []string{"f(^1 / 0)", "f(^k[0])", "f(^most + 1)", "f(^v + u)", "^1 / 0 + f(1)", "size(^v + u) + size(f(v))", "f(f(^1 / 0))", "^n / 0 * f(n)"} {
			refuses(t, api.ErrRange, l, strings.ReplaceAll(s, "f(", f+"("))
		}
		for _, s := range []string{"^f()", "^f(v, v)", "^f(k)", "^f(y)", "f(^f(k))", "v[^f(1)]"} {
			refuses(t, api.ErrType, l, strings.ReplaceAll(s, "f(", f+"("))
		}
	}
}

// P16.1: which of several faults it is: layer 15's ahead of all; kids ahead of what they are in, the left one ahead of the right one.
func TestFirst(t *testing.T) {
	l := some()
	refuses(t, api.ErrName, l, "1 / 0 + ^x", "k[0] + ^x[1]", "exp(1) + ^f(2)", "^x + 1 / 0", "v[0] * ^x")
	refuses(t, api.ErrType, l, "1 / 0 + ^(v + 1)", "k[0] * ^(v * v)", "exp(1) + ^-k", "v[0] * v[^r]", "most * most + ^size(n)")
	refuses(t, api.ErrRange, l, "^1 / 0 + k[0]", "(1 + ^k[0]) / 0", "^k[0] / 0", "k[^k[0]] + k[9]", "^k[0] + 1 / 0", "1 + 2 * ^v[4] - v[5]", "dot(^v + u, v - u)", "^dot(v, u) + 1 / 0", "dot(v / ^v[9], v / 0)", "square(^1 / 0) + 1 / 0", "sum(^v / 0) / 0", "v[^k[4]] / 0", "-^(most + 1) - 1 / 0", "^most + 1 + (most + 1)", "^(most + 1) * (most + 2)", "1 + (2 + (3 + ^1 / 0))", "(1 + 2) * 3 / ^(4 / 0)", "^most * 2 / 0")
	for i, s := range []string{"1 / 0", "k[0]", "most + 1", "dot(v, u)", "v / 0"} {
		at := strconv.Itoa(i)
		for _, c := range []string{"size(v * 1 + ^(" + s + "))", "1 + ^" + s} {
			e := parsedExpr(t, strings.Replace(c, "^", "", 1))
			checkExpr(t, e, l)
			checkExpr(t, placed(e), l)
		}
		if v, f := bind.Come(placed(parsedExpr(t, s)), l); !isNone(v) || f.E != api.ErrRange {
			t.Errorf("%s: %s, %s", at, told(v), shownFault(f))
		}
	}
}
