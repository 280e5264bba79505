package zint_test

import (
	"math/big"
	"strings"
	"testing"

	"stepstone/api"
	"stepstone/zint"
)

// P4.5: digits, with a - in front of integers below 0 alone.
func TestText(t *testing.T) {
	for _, z := range zeros() {
		if got := zint.Text(z); got != "0" {
			t.Errorf("Text of 0 = %q", got)
		}
	}
	l := someInts()
	for _, n := range longest() {
		l = append(l, intOf(n))
	}
	for _, a := range l {
		for _, n := range []int{0, 2, 3000} {
			if got, want := zint.Text(padded(a, n)), bigOf(a).String(); got != want {
				t.Errorf("Text of %s = %.100s, want %.100s", shown(a), got, want)
			}
		}
	}
	for _, a := range tooLongs() {
		if got := zint.Text(a); got != "" {
			t.Errorf("Text of an integer that is too long = %.100s..", got)
		}
	}
}

// P4.5: the integer that a text denotes, with leading zeros, with a -, also in front of 0.
func TestParse(t *testing.T) {
	for _, c := range []struct {
		s    string
		want int64
	}{
		{"0", 0}, {"-0", 0}, {"-000", 0}, {"7", 7}, {"-7", -7}, {"0018", 18}, {"-0018", -18}, {"-1", -1},
		{"9223372036854775807", 1<<63 - 1}, {"-9223372036854775808", -1 << 63},
	} {
		got, e := zint.Parse(c.s)
		isInt(t, big.NewInt(c.want), got, e, "Parse", small(c.want))
	}
	for _, s := range []string{"", "-", "--", "--1", "-+1", "+1", "+", "-x", "x", "1-", "-1-", "1 ", " 1", "- 1", "-1 ", "1.", "-1.0", "1e2", "0x1", "-0x1", "1_0", "−1", "-\x00", "\xff", "-١"} {
		got, e := zint.Parse(s)
		fails(t, api.ErrForm, got, e, "Parse of "+s)
	}
}

// P4.5: 40000 digits and one more, 2048 limbs and one bit more, with a - and without: the - is none of the digits.
func TestParseAtTheLimit(t *testing.T) {
	for _, sign := range []string{"", "-"} {
		for _, s := range []string{strings.Repeat("0", 39999) + "7", strings.Repeat("0", 40000), strings.Repeat("0", 543) + strings.Repeat("9", 39456), most().String()} {
			want, _ := new(big.Int).SetString(sign+s, 10)
			got, e := zint.Parse(sign + s)
			isInt(t, want, got, e, "Parse")
		}
		for _, s := range []string{strings.Repeat("0", 40000) + "7", strings.Repeat("0", 40001), strings.Repeat("9", 40001), strings.Repeat("9", 40000), strings.Repeat("9", 39457), pow2(maxBits).String()} {
			got, e := zint.Parse(sign + s)
			fails(t, api.ErrLong, got, e, "Parse of "+sign+s[:10]+"..")
		}
		got, e := zint.Parse(sign + strings.Repeat("9", 39999) + "x")
		fails(t, api.ErrForm, got, e, "Parse of an x behind digits")
	}
	got, e := zint.Parse(strings.Repeat("-", 50000))
	fails(t, api.ErrForm, got, e, "Parse of many -")
}

// P4.6: Parse of Text is the integer.
func TestParseOfText(t *testing.T) {
	check := func(a api.Int) {
		got, e := zint.Parse(zint.Text(a))
		isInt(t, bigOf(a), got, e, "Parse of Text", a)
	}
	for _, a := range append(someInts(), zeros()...) {
		check(a)
	}
	for _, n := range longest() {
		check(intOf(n))
	}
	anyPairs(47, 3000, 12, func(a, b api.Int) { check(a) })
}
