package dyad_test

import (
	"slices"
	"strconv"
	"strings"
	"testing"

	"stepstone/api"
	"stepstone/dyad"
)

// P5.5: the normal number's integer, p, and its exponent, with a - in front of what is below 0 alone.
func TestText(t *testing.T) {
	for _, c := range []struct {
		m    int64
		e    int
		want string
	}{
		{12, 0, "3p2"}, {0, 0, "0p0"}, {0, 9, "0p0"}, {0, -far, "0p0"}, {1, 0, "1p0"}, {-1, 0, "-1p0"}, {-12, -2, "-3p0"}, {12, -3, "3p-1"}, {-40, -20, "-5p-17"}, {1, far, "1p1048576"}, {-3, -far, "-3p-1048576"}, {2, -far, "1p-1048575"}, {10, 8, "5p9"}, {10, 9, "5p10"},
	} {
		if got := dyad.Text(small(c.m, c.e)); got != c.want {
			t.Errorf("Text of %dp%d = %q, want %q", c.m, c.e, got, c.want)
		}
	}
	for _, a := range slices.Concat(someDyads(), zeros()) {
		x := valueOf(a)
		for _, n := range []int{0, 2, 3000} {
			if got, want := dyad.Text(padded(a, n)), x.m.String()+"p"+strconv.Itoa(x.e); got != want {
				t.Errorf("Text of %s = %.100s, want %.100s", shown(a), got, want)
			}
		}
	}
	// Their normal number is not valid.
	for _, a := range tooFar() {
		if got := dyad.Text(a); got != "" {
			t.Errorf("Text of %s = %.100s", shown(a), got)
		}
	}
}

// P5.5: a number's one text is read, to the bounds.
func TestParse(t *testing.T) {
	for _, c := range []struct {
		s    string
		m    int64
		e    int
		fine bool
	}{
		{"0p0", 0, 0, true}, {"1p0", 1, 0, true}, {"-1p0", -1, 0, true}, {"3p2", 3, 2, true}, {"-3p-2", -3, -2, true}, {"5p10", 5, 10, true}, {"-77p-1001", -77, -1001, true}, {"9223372036854775807p0", 1<<63 - 1, 0, true},
		{"1p1048576", 1, far, true}, {"-5p-1048576", -5, -far, true},
	} {
		got, e := dyad.Parse(c.s)
		isExact(t, valueOf(small(c.m, c.e)), got, e, "Parse of "+c.s)
	}
	for _, s := range []string{
		"", "p", "-p", "p0", "0", "1", "-1", "1p", "-1p", "1p-", "0p", "p-1", "-",
		"1pp1", "1p1p", "1p1p1", "p1p1", "1p-1p0", "1P1", "1e1", "1.0p0", "1,p0", "x", "1px", "xp1", "0x1p0", "1p0x1", "1_1p0", "1p1_0", "1p1.0", "1/3p0",
		"+1p0", "1p+1", "+0p0", "0p+0", "--1p0", "1p--1", "-+1p0", "1p1-", "1-p1",
		" 1p0", "1 p0", "1p 0", "1p0 ", "- 1p0", "1p- 1", "1p0\n", "1p0\x00", "\xff", "1p\xff", "١p0", "1p١", "−1p0",
		"2p0", "-2p0", "4p-2", "10p1", "18446744073709551616p0", "2p1048575", "2p1048576", "4p-1048577", "0p1", "0p-1", "0p5", "-0p0", "00p0", "0p00", "-0p-0", "01p0", "-01p0", "003p2",
		"1p01", "1p-01", "1p00", "1p-0", "-1p-0", "3p-00", "3p007", "1p0001048576",
		"1p1048577", "-1p1048577", "1p-1048577", "1p10485760", "1p9223372036854775807", "1p9223372036854775808", "1p-9223372036854775808", "1p18446744073709551616", "1p99999999999999999999999999",
	} {
		got, e := dyad.Parse(s)
		fails(t, api.ErrForm, got, e, "Parse of "+strconv.Quote(s))
	}
}

// P5.5: integers of 2048 limbs, and of one bit more; texts that are longer than any number's.
func TestParseLong(t *testing.T) {
	full := allOnes(maxBits)
	for _, sign := range []string{"", "-"} {
		for _, n := range []exact{{full, 0}, {plus(pow2(maxBits-1), 1), -far}, {plus(full, -2), far}} {
			if sign == "-" {
				n = n.turned()
			}
			s := n.m.String() + "p" + strconv.Itoa(n.e)
			got, e := dyad.Parse(s)
			isExact(t, n, got, e, "Parse of "+s[:10]+"..")
		}
		for _, s := range []string{plus(full, 2).String() + "p0", strings.Repeat("9", 39457) + "p0", strings.Repeat("9", 40001) + "p0", strings.Repeat("9", 100000), strings.Repeat("0", 40001) + "p0", strings.Repeat("0", 39000) + "1p0", "1p" + strings.Repeat("0", 50000), "1p" + strings.Repeat("9", 50000), strings.Repeat("p", 50000), strings.Repeat("-", 50000)} {
			got, e := dyad.Parse(sign + s)
			fails(t, api.ErrForm, got, e, "Parse of "+sign+s[:10]+"..")
		}
	}
}

// P5.5: Parse of Text is the number.
func TestParseOfText(t *testing.T) {
	check := func(a api.Dyad) {
		got, e := dyad.Parse(dyad.Text(a))
		isExact(t, valueOf(a), got, e, "Parse of Text", a)
	}
	for _, a := range slices.Concat(someDyads(), zeros()) {
		check(a)
	}
	anyPairs(60, 5000, 8, func(a, b api.Dyad) { check(a) })
}
