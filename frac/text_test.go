package frac_test

import (
	"math/big"
	"math/rand/v2"
	"slices"
	"strconv"
	"strings"
	"testing"

	"stepstone/api"
	"stepstone/frac"
)

// P6.4: N, and / and D, if that is not 1, of the normal number.
func TestText(t *testing.T) {
	for _, c := range []struct {
		n, d int64
		want string
	}{{0, 1, "0"}, {0, 9, "0"}, {7, 1, "7"}, {-7, 1, "-7"}, {14, 2, "7"}, {-14, 2, "-7"}, {1, 2, "1/2"}, {-1, 2, "-1/2"}, {-6, 4, "-3/2"}, {10, 100, "1/10"}, {1, 1, "1"}, {2, 3, "2/3"}, {11, 11, "1"}, {1, 11, "1/11"}} {
		if got := frac.Text(small(c.n, c.d)); got != c.want {
			t.Errorf("Text of %d by %d = %q, want %q", c.n, c.d, got, c.want)
		}
	}
	check := func(a api.Frac) {
		t.Helper()
		if got, want := frac.Text(a), valueOf(a).RatString(); got != want {
			t.Errorf("Text of %s = %.100s, want %.100s", shown(a), got, want)
		}
	}
	for _, a := range slices.Concat(someFracs(), zeros()) {
		check(a)
		check(padded(a, 3000))
		check(widened(a, allOnes(70)))
	}
	for _, a := range longFracs() {
		check(a)
	}
	for _, a := range []api.Frac{fracOf(pow2(640), big.NewInt(1)), fracOf(big.NewInt(1), pow2(64)), fracOf(big.NewInt(5), plus(pow2(64), 1))} {
		check(a)
	}
}

// reads checks a numeral by the library, which reads it too.
func reads(t *testing.T, s string) {
	t.Helper()
	want, ok := new(big.Rat).SetString(s)
	if !ok {
		t.Fatalf("%.100q is none of the library's numbers", s)
	}
	got, e := frac.Numeral(s)
	isFrac(t, want, got, e, "Numeral "+s[:min(len(s), 100)])
}

func isNoNumeral(t *testing.T, want api.Errno, s string) {
	t.Helper()
	got, e := frac.Numeral(s)
	fails(t, want, got, e, "Numeral "+strconv.Quote(s[:min(len(s), 100)]))
}

// P6.4: the chapter's examples, and others by hand: zeros in front and behind, exponents with each sign and without, of one to four digits.
func TestNumeral(t *testing.T) {
	for _, c := range []struct {
		s    string
		want *big.Rat
	}{
		{"12.50e-1", big.NewRat(5, 4)}, {"1e+2", big.NewRat(100, 1)}, {"1e2", big.NewRat(100, 1)}, {"1e-2", big.NewRat(1, 100)}, {"0", new(big.Rat)}, {"00", new(big.Rat)}, {"0.0", new(big.Rat)}, {"0e9999", new(big.Rat)}, {"0.000e-9999", new(big.Rat)},
		{"7", big.NewRat(7, 1)}, {"007", big.NewRat(7, 1)}, {"0018.500", big.NewRat(37, 2)}, {"1.0", big.NewRat(1, 1)}, {"0.5", big.NewRat(1, 2)}, {"0.05", big.NewRat(1, 20)}, {"1.5e1", big.NewRat(15, 1)}, {"1.5e0", big.NewRat(3, 2)}, {"1.5e-0", big.NewRat(3, 2)}, {"1.5e+00", big.NewRat(3, 2)}, {"1.5e01", big.NewRat(15, 1)}, {"2e0003", big.NewRat(2000, 1)}, {"2e-0003", big.NewRat(1, 500)}, {"25e-2", big.NewRat(1, 4)}, {"10e-1", big.NewRat(1, 1)}, {"9.99e2", big.NewRat(999, 1)}, {"18446744073709551616.5", new(big.Rat).SetFrac(plus(pow2(65), 1), big.NewInt(2))},
	} {
		got, e := frac.Numeral(c.s)
		isFrac(t, c.want, got, e, "Numeral "+c.s)
	}
	for _, digits := range []string{"1", "0", "9", "007", "123456789012345678901234567890", "5000"} {
		for _, places := range []string{"", ".0", ".5", ".25", ".000", ".12500", ".00000000000000000000000007"} {
			for _, exponent := range []string{"", "e0", "e1", "e9", "e12", "e007", "e123", "e0000", "e9999", "e1000"} {
				for _, sign := range []string{"", "+", "-"} {
					reads(t, digits+places+strings.Replace(exponent, "e", "e"+sign, 1))
				}
			}
		}
	}
}

// P6.4: numerals made at random.
func TestAnyNumeral(t *testing.T) {
	g := rand.New(rand.NewPCG(6, 69))
	digits := func(most int) string {
		s := make([]byte, 1+g.IntN(most))
		for i := range s {
			s[i] = '0' + byte(g.IntN(10)*g.IntN(2))
		}
		return string(s)
	}
	for range 5000 {
		s := digits(60)
		if g.IntN(2) == 0 {
			s += "." + digits(60)
		}
		if g.IntN(2) == 0 {
			s += "e" + []string{"", "+", "-"}[g.IntN(3)] + digits(3)
		}
		reads(t, s)
	}
}

// P6.4: 400 bytes, the greatest and the least that they can say; one byte more is too long, whatever it is.
func TestNumeralAtTheLimit(t *testing.T) {
	repeat := strings.Repeat
	for _, s := range []string{
		repeat("9", 400), repeat("0", 400), repeat("0", 399) + "7", "7" + repeat("0", 399), "0." + repeat("0", 397) + "1", "1." + repeat("0", 398), repeat("9", 398) + ".9", repeat("9", 395) + "e9999", repeat("9", 394) + "e+9999", repeat("9", 394) + "e-9999", "0." + repeat("0", 391) + "1e-9999", "0." + repeat("9", 393) + "e999", "1." + repeat("5", 200) + "e12",
	} {
		if len(s) > 400 {
			t.Fatalf("%d bytes", len(s))
		}
		reads(t, s)
	}
	for _, s := range []string{repeat("9", 401), repeat("0", 401), "0." + repeat("0", 399), repeat("9", 396) + "e9999", repeat("9", 399) + "e1", repeat("x", 401), repeat(".", 401), "-" + repeat("1", 400), repeat("1", 400) + " ", repeat("1", 400) + "x", repeat("1", 100000), repeat(" ", 100000)} {
		isNoNumeral(t, api.ErrLong, s)
	}
	for _, s := range []string{repeat("9", 399) + "x", repeat("9", 399) + ".", repeat("9", 399) + "e", "." + repeat("9", 399), "-" + repeat("9", 399), repeat(".", 400), repeat("e", 400), repeat("x", 400), "1e" + repeat("0", 398), "1e" + repeat("1", 398)} {
		isNoNumeral(t, api.ErrForm, s)
	}
}

// P6.4: wrong inputs.
func TestNumeralWrong(t *testing.T) {
	for _, s := range []string{
		"", ".", "e", "-", "+", ".5", "5.", "1..2", "1.2.3", ".1.", "1.e5", ".e5", "1.5.e2", "1e5.0", "1e.5",
		"1e", "1e+", "1e-", "1.5e", "e5", "+e5", "1ee5", "1e5e5", "1e5e", "1e12345", "1e00000", "1e-00001", "1e+10000", "1e--5", "1e++5", "1e+-5", "1e-+5", "1e5-", "1e5+",
		"-1", "+1", "-0.5", "+0.5", "--1", "1-", "1+", "1-2", "1+2", " 1", "1 ", "1 .5", "1. 5", "1 e5", "1e 5", "1e+ 5", "1\n", "1\x00", "\x001", "\t1",
		"1E5", "1E+5", "1.5E-1", "E5", "1d5", "1f", "0x1", "0x1p3", "1p3", "1/2", "1,5", "1_000", "1'000", "inf", "nan", "Inf", "NaN", "x", "1x", "x1", "\xff", "1\xff", "١", "1.١", "1e١", "１", "−1", "1e−1", "1:", "1/", "1.:", "1./", "1e:", "1e/", "1e5:", "1e5/",
	} {
		isNoNumeral(t, api.ErrForm, s)
	}
}
