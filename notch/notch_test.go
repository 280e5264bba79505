package notch_test

import (
	"math"
	"strings"
	"testing"

	"stepstone/notch"
)

// edges are the numbers next to where one byte more is needed, and some between.
func edges() []uint64 {
	l := []uint64{0, 1, 2, 7, 254, 258, 0x0102030405060708, 1 << 63, math.MaxInt64, math.MaxUint64 - 1, math.MaxUint64}
	for k := 1; k < 8; k++ {
		p := uint64(1) << (8 * k)
		l = append(l, p-1, p, p+1)
	}
	return l
}

// plainNum is the encoding, spelt out by division instead of by shifts.
func plainNum(n uint64) string {
	digits := ""
	for ; n > 0; n /= 256 {
		digits = string([]byte{byte(n % 256)}) + digits
	}
	return string([]byte{byte(len(digits))}) + digits
}

// P1.1: the encodings of single numbers.
func TestNumOfOne(t *testing.T) {
	for _, c := range []struct {
		n    uint64
		want string
	}{
		{0, "\x00"},
		{1, "\x01\x01"},
		{255, "\x01\xff"},
		{256, "\x02\x01\x00"},
		{258, "\x02\x01\x02"},
		{65535, "\x02\xff\xff"},
		{65536, "\x03\x01\x00\x00"},
		{1<<56 - 1, "\x07\xff\xff\xff\xff\xff\xff\xff"},
		{1 << 56, "\x08\x01\x00\x00\x00\x00\x00\x00\x00"},
		{0x0102030405060708, "\x08\x01\x02\x03\x04\x05\x06\x07\x08"},
		{math.MaxUint64, "\x08\xff\xff\xff\xff\xff\xff\xff\xff"},
	} {
		if got := notch.Num(c.n); got != c.want {
			t.Errorf("Num(%d) = %x, want %x", c.n, got, c.want)
		}
	}
	for _, n := range edges() {
		if got, want := notch.Num(n), plainNum(n); got != want {
			t.Errorf("Num(%d) = %x, want %x", n, got, want)
		}
	}
}

// P1.1: several numbers, and none.
func TestNumOfSeveral(t *testing.T) {
	if got := notch.Num(); got != "" {
		t.Errorf("Num() = %x", got)
	}
	if got := notch.Num([]uint64(nil)...); got != "" {
		t.Errorf("Num(nil) = %x", got)
	}
	if got := notch.Num(258, 7); got != "\x02\x01\x02\x01\x07" {
		t.Errorf("Num(258, 7) = %x", got)
	}
	if got := notch.Num(0, 0, 256, 0); got != "\x00\x00\x02\x01\x00\x00" {
		t.Errorf("Num(0, 0, 256, 0) = %x", got)
	}
	want := ""
	for _, n := range edges() {
		want += plainNum(n)
	}
	if got := notch.Num(edges()...); got != want {
		t.Errorf("Num of all edges = %x, want %x", got, want)
	}
}

// R5: the numbers that are handed in stay as they are.
func TestNumKeepsItsArgument(t *testing.T) {
	l := []uint64{3, 258, 0, 9}
	notch.Num(l[:2]...)
	if l[0] != 3 || l[1] != 258 || l[2] != 0 || l[3] != 9 {
		t.Errorf("the list became %v", l)
	}
}

// P1.1: the encodings of strings of any bytes, of lengths next to where one byte more is needed.
func TestText(t *testing.T) {
	for _, c := range []struct{ s, want string }{
		{"", "\x00"},
		{"ab", "\x01\x02ab"},
		{"\x00", "\x01\x01\x00"},
		{"\xff\xfe\x00\xc3", "\x01\x04\xff\xfe\x00\xc3"},
		{"é", "\x01\x02\xc3\xa9"},
	} {
		if got := notch.Text(c.s); got != c.want {
			t.Errorf("Text(%q) = %x, want %x", c.s, got, c.want)
		}
	}
	for _, c := range []struct {
		n    int
		head string
	}{
		{255, "\x01\xff"},
		{256, "\x02\x01\x00"},
		{65535, "\x02\xff\xff"},
		{65536, "\x03\x01\x00\x00"},
	} {
		s := strings.Repeat("x", c.n)
		if notch.Text(s) != c.head+s {
			t.Errorf("Text of %d bytes does not begin with %x, or does not go on with them", c.n, c.head)
		}
	}
}

// P1.1: the length of an encoding, without the encoding.
func TestLong(t *testing.T) {
	for _, c := range []struct {
		n    uint64
		want int
	}{
		{0, 1}, {1, 2}, {255, 2}, {256, 3}, {65535, 3}, {65536, 4},
		{1<<32 - 1, 5}, {1 << 32, 6}, {1<<56 - 1, 8}, {1 << 56, 9}, {math.MaxUint64, 9},
	} {
		if got := notch.Long(c.n); got != c.want {
			t.Errorf("Long(%d) = %d, want %d", c.n, got, c.want)
		}
	}
	for _, n := range edges() {
		if got, want := notch.Long(n), len(plainNum(n)); got != want {
			t.Errorf("Long(%d) = %d, want %d", n, got, want)
		}
	}
}

// P1.5: the lesser number's encoding is the lesser string, whatever follows both.
func TestOrder(t *testing.T) {
	after := []string{"", "\x00", "a", "\xff\xff\xff\xff\xff\xff\xff\xff\xff\xff"}
	for _, a := range edges() {
		for _, b := range edges() {
			for i := range after {
				for j := range after {
					if a < b && notch.Num(a)+after[i] >= notch.Num(b)+after[j] {
						t.Errorf("Num(%d) + %x is not ahead of Num(%d) + %x", a, after[i], b, after[j])
					}
				}
			}
		}
	}
	for n := uint64(0); n < 70000; n++ {
		if notch.Num(n)+"\xff" >= notch.Num(n+1) {
			t.Fatalf("Num(%d) is not ahead of the next number's", n)
		}
	}
}

// P1.5: no encoding is a proper prefix of another one.
func TestNoPrefix(t *testing.T) {
	for _, a := range edges() {
		for _, b := range edges() {
			if a != b && strings.HasPrefix(notch.Num(b), notch.Num(a)) {
				t.Errorf("Num(%d) begins with Num(%d)", b, a)
			}
		}
	}
}
