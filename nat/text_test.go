package nat_test

import (
	"math/big"
	"strings"
	"testing"

	"stepstone/api"
	"stepstone/nat"
)

// aroundTens are the numbers next to the powers of ten.
func aroundTens() []*big.Int {
	var l []*big.Int
	for _, n := range []int{0, 1, 2, 3, 9, 10, 17, 18, 19, 20, 21, 36, 37, 38, 39, 56, 57, 58, 75, 76, 77, 95, 1000, 9500, 39456} {
		for d := int64(-1); d <= 1; d++ {
			l = append(l, plus(pow10(n), d))
		}
		l = append(l, new(big.Int).Mul(pow10(n), big.NewInt(7)))
	}
	return l
}

// P3.6: decimal digits, none of them a leading zero, also where there are zeros within.
func TestText(t *testing.T) {
	if got := nat.Text(api.Nat{0, 1}); got != "18446744073709551616" {
		t.Errorf("Text of 2^64 = %s", got)
	}
	for _, z := range zeros() {
		if got := nat.Text(z); got != "0" {
			t.Errorf("Text of 0 = %q", got)
		}
	}
	for _, a := range append(someNumbers(), allOnes(2048), append(allOnes(2048), 0, 0), append(make(api.Nat, 2047), 1), api.Nat{18, 0}) {
		if got, want := nat.Text(a), bigOf(a).String(); got != want {
			t.Errorf("Text of %s = %.100s, want %.100s", shown([]api.Nat{a}), got, want)
		}
	}
	for _, n := range aroundTens() {
		if n.BitLen() > maxBits {
			continue
		}
		if got, want := nat.Text(natOf(n)), n.String(); got != want {
			t.Errorf("Text of %.100s.. = %.100s..", want, got)
		}
	}
	for _, a := range tooLongs() {
		if got := nat.Text(a); got != "" {
			t.Errorf("Text of a number that is too long = %.100s..", got)
		}
	}
}

// P3.6: the number that digits denote, however many zeros are in front.
func TestParse(t *testing.T) {
	for _, c := range []struct {
		s    string
		want uint64
	}{
		{"0", 0}, {"00", 0}, {"0018", 18}, {"18", 18}, {"1", 1}, {"9", 9}, {"10", 10}, {"09", 9},
		{"18446744073709551615", ones}, {"018446744073709551615", ones}, {"9999999999999999999", 9999999999999999999}, {"10000000000000000000", 10000000000000000000},
		{strings.Repeat("0", 19) + "5", 5}, {strings.Repeat("0", 40000), 0}, {strings.Repeat("0", 39999) + "7", 7},
	} {
		got, e := nat.Parse(c.s)
		isNat(t, new(big.Int).SetUint64(c.want), got, e, "Parse "+c.s[max(0, len(c.s)-25):])
	}
	for _, n := range aroundTens() {
		for _, zeros := range []int{0, 1, 18, 19, 20, 500} {
			s := strings.Repeat("0", zeros) + n.String()
			got, e := nat.Parse(s)
			upToTheLimit(t, n, got, e, "Parse")
		}
	}
}

// P3.6, P3.7: what is written is read as it was.
func TestParseOfText(t *testing.T) {
	for _, a := range append(append(someNumbers(), zeros()...), allOnes(2048), append(make(api.Nat, 2047), 1)) {
		got, e := nat.Parse(nat.Text(a))
		isNat(t, bigOf(a), got, e, "Parse of Text", a)
	}
	anyPairs(39, 10000, 9, func(a, _ api.Nat) {
		got, e := nat.Parse(nat.Text(a))
		isNat(t, bigOf(a), got, e, "Parse of Text", a)
	})
}

// P3.6: 2048 limbs and one more, 40000 digits and one more.
func TestParseAtTheLimits(t *testing.T) {
	most := plus(pow2(maxBits), -1)
	for _, zeros := range []int{0, 1, 500} {
		for d := int64(-1); d <= 1; d++ {
			got, e := nat.Parse(strings.Repeat("0", zeros) + plus(most, d).String())
			upToTheLimit(t, plus(most, d), got, e, "Parse")
		}
	}
	for _, s := range []string{
		strings.Repeat("0", 40001), strings.Repeat("0", 40000) + "7", "1" + strings.Repeat("0", 40000), strings.Repeat("9", 40001), strings.Repeat("0", 1000000),
		strings.Repeat("9", 40000), strings.Repeat("9", 39457), "1" + strings.Repeat("0", 39999),
		strings.Repeat("1", 40001) + "x", // too many digits and no number: the error that is named first
	} {
		got, e := nat.Parse(s)
		fails(t, api.ErrLong, got, e, "Parse")
	}
	got, e := nat.Parse(strings.Repeat("9", 39456))
	isNat(t, plus(pow10(39456), -1), got, e, "Parse")
}

// P3.6: what is no number, however long it is.
func TestParseNoNumber(t *testing.T) {
	for _, s := range []string{
		"", " ", "-", "+", "x", "-1", "+1", " 1", "1 ", "1\n", "1 2", "1_000", "1,000", "1.0", "1e3", "0x10", "1a", "a1", "1a1", "0b", "/", ":", "1/", "1:", "\x00", "1\x00", "\xff", "1\xff",
		"\u0661", "\uff11", "1\u0661", "\u00b2", "12345678901234567890x", "x12345678901234567890", "1234567890x1234567890",
		strings.Repeat("x", 40000), strings.Repeat("x", 50000), strings.Repeat("1", 40000) + "x", "x" + strings.Repeat("1", 40000), strings.Repeat("9", 39999) + "x", strings.Repeat("1", 20000) + "x" + strings.Repeat("1", 20000),
	} {
		got, e := nat.Parse(s)
		if e != api.ErrForm || len(got) != 0 {
			t.Errorf("Parse of %d bytes %.30q: error %d and %d limbs, want error %d and none", len(s), s, e, len(got), api.ErrForm)
		}
	}
	for b := range 256 {
		if '0' <= b && b <= '9' {
			continue
		}
		for _, s := range []string{string([]byte{byte(b)}), string([]byte{'1', byte(b)}), string([]byte{byte(b), '1'})} {
			if got, e := nat.Parse(s); e != api.ErrForm || len(got) != 0 {
				t.Errorf("Parse of %q: error %d", s, e)
			}
		}
	}
}
