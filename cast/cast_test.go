package cast_test

import (
	"math"
	"math/big"
	"math/rand/v2"
	"strings"
	"testing"
	"unsafe"

	"stepstone/cast"
)

const prime = 1<<61 - 1

// bigP is the prime, written in digits that the program does not share.
func bigP() *big.Int {
	p, _ := new(big.Int).SetString("2305843009213693951", 10)
	return p
}

// plainMore is what More is to return, by the numbers themselves.
func plainMore(r uint64, s string) uint64 {
	n := new(big.Int).SetUint64(r)
	n.Lsh(n, uint(8*len(s)))
	n.Add(n, new(big.Int).SetBytes([]byte(s)))
	return n.Mod(n, bigP()).Uint64()
}

// plainRest is the remainder of the number whose digits are 1 and the string's bytes.
func plainRest(s string) uint64 {
	n := new(big.Int).SetBytes([]byte("\x01" + s))
	return n.Mod(n, bigP()).Uint64()
}

func bigEndian(n uint64) string {
	s := string(new(big.Int).SetUint64(n).Bytes())
	return strings.Repeat("\x00", 8-len(s)) + s
}

func anyText(g *rand.Rand, n int) string {
	b := make([]byte, n)
	for i := range b {
		b[i] = byte(g.Uint32())
	}
	return string(b)
}

// someTexts has short strings of every length up to 40, of several kinds, and long ones.
func someTexts() []string {
	g := rand.New(rand.NewPCG(2, 61))
	var l []string
	for n := range 41 {
		l = append(l, strings.Repeat("\x00", n), strings.Repeat("\xff", n), strings.Repeat("\x01", n), anyText(g, n), anyText(g, n))
	}
	for _, n := range []int{255, 256, 1000, 4095, 20000, 65537} {
		l = append(l, strings.Repeat("\x00", n), strings.Repeat("\xff", n), anyText(g, n))
	}
	return append(l, "a", "ab", "é", "a sealed text's last bytes", restZero, strings.Repeat("\x00", 8)+"x", "\x00ab")
}

// restZero is a string whose number is a multiple of P: 2^64 leaves 8, and its bytes are P - 8.
const restZero = "\x1f\xff\xff\xff\xff\xff\xff\xf7"

// someNumbers are those next to the multiples of P, and to the ends, from 0 to the greatest uint64.
func someNumbers() []uint64 {
	l := []uint64{0, 1, 5, 255, 256, 353, 1 << 53, 1 << 60, 1 << 61, 1 << 62, 1 << 63, 0x0123456789abcdef, math.MaxInt64, math.MaxUint64 - 1, math.MaxUint64}
	for k := uint64(1); k <= 8; k++ {
		l = append(l, k*prime-2, k*prime-1, k*prime, k*prime+1, k*prime+2)
	}
	return l
}

// P2.1: the chapter's examples.
func TestRestExamples(t *testing.T) {
	for _, c := range []struct {
		s    string
		want uint64
	}{
		{"", 1},
		{"a", 353},
		{"ab", 90466},
		{"\x00\x00\x00\x00\x00\x00\x00\x00", 8},
		{restZero, 0},
		{"\x1f\xff\xff\xff\xff\xff\xff\xf6", prime - 1},
		{"\x1f\xff\xff\xff\xff\xff\xff\xf8", 1},
		{"\xff\xff\xff\xff\xff\xff\xff\xff", 15},
	} {
		if got := cast.Rest(c.s); got != c.want {
			t.Errorf("Rest(%x) = %d, want %d", c.s, got, c.want)
		}
	}
}

// P2.1: the remainder of strings of many kinds and lengths.
func TestRest(t *testing.T) {
	for _, s := range someTexts() {
		if got, want := cast.Rest(s), plainRest(s); got != want {
			t.Errorf("Rest of %d bytes %.40x = %d, want %d", len(s), s, got, want)
		}
	}
}

// P2.1: the chapter's examples, and others that are easily told.
func TestMoreExamples(t *testing.T) {
	for _, c := range []struct {
		r    uint64
		s    string
		want uint64
	}{
		{353, "b", 90466},
		{1<<61 - 1, "", 0},
		{5, "\x00", 1280},
		{0, "", 0},
		{0, "\x00", 0},
		{0, "a", 97},
		{1<<61 - 2, "", 1<<61 - 2},
		{1 << 61, "", 1},
		{1<<62 - 2, "", 0},
		{1<<62 - 1, "\x00", 256},
		{math.MaxUint64, "", 7},
		{math.MaxUint64, "\x01", 7*256 + 1},
		{0, "\x1f\xff\xff\xff\xff\xff\xff\xff", 0},
		{0, "\x3f\xff\xff\xff\xff\xff\xff\xff", 1},
	} {
		if got := cast.More(c.r, c.s); got != c.want {
			t.Errorf("More(%d, %x) = %d, want %d", c.r, c.s, got, c.want)
		}
	}
}

// P2.1: any number goes on with any string.
func TestMore(t *testing.T) {
	for _, r := range someNumbers() {
		for _, s := range someTexts() {
			if len(s) > 300 {
				continue
			}
			if got, want := cast.More(r, s), plainMore(r, s); got != want {
				t.Errorf("More(%d, %.40x of %d bytes) = %d, want %d", r, s, len(s), got, want)
			}
		}
		long := strings.Repeat("\xffa\x00", 7000)
		if got, want := cast.More(r, long), plainMore(r, long); got != want {
			t.Errorf("More(%d, %d bytes) = %d, want %d", r, len(long), got, want)
		}
	}
}

// P2.3: More of a string's remainder is the remainder of both, wherever the string is cut.
func TestMoreGoesOn(t *testing.T) {
	for _, s := range someTexts() {
		step := 1 + len(s)/50
		for n := 0; n <= len(s); n += step {
			if got, want := cast.More(cast.Rest(s[:n]), s[n:]), cast.Rest(s); got != want {
				t.Errorf("%d bytes %.40x, cut at %d: %d, want %d", len(s), s, n, got, want)
			}
		}
	}
}

// P2.3: bytes 0 multiply by powers of two alone.
func TestRestOfZeros(t *testing.T) {
	for k := range 700 {
		if got, want := cast.Rest(strings.Repeat("\x00", k)), uint64(1)<<(8*k%61); got != want {
			t.Errorf("Rest of %d bytes 0 = %d, want %d", k, got, want)
		}
	}
	for _, k := range []int{10007, 65536, 1 << 20} {
		if got, want := cast.Rest(strings.Repeat("\x00", k)), uint64(1)<<(8*k%61); got != want {
			t.Errorf("Rest of %d bytes 0 = %d, want %d", k, got, want)
		}
	}
}

// P2.5: whichever bytes of two strings are exchanged, both remainders have the same sum.
func TestSums(t *testing.T) {
	g := rand.New(rand.NewPCG(2, 5))
	for _, n := range []int{0, 1, 2, 7, 8, 9, 16, 17, 40, 1000, 10007} {
		for range 30 {
			a, b := []byte(anyText(g, n)), []byte(anyText(g, n))
			before := (cast.Rest(string(a)) + cast.Rest(string(b))) % prime
			for i := range n {
				if g.Uint32()%2 == 0 {
					a[i], b[i] = b[i], a[i]
				}
			}
			if after := (cast.Rest(string(a)) + cast.Rest(string(b))) % prime; after != before {
				t.Errorf("of %d bytes: the sum was %d, became %d", n, before, after)
			}
		}
	}
}

// P2.2: a string, followed by its remainder, the highest byte first.
func TestSeal(t *testing.T) {
	if got := cast.Seal(""); got != "\x00\x00\x00\x00\x00\x00\x00\x01" {
		t.Errorf("Seal of the empty text = %x", got)
	}
	if got := cast.Seal("ab"); got != "ab\x00\x00\x00\x00\x00\x01\x61\x62" {
		t.Errorf("Seal of ab = %x", got)
	}
	if got := cast.Seal(restZero); got != restZero+"\x00\x00\x00\x00\x00\x00\x00\x00" {
		t.Errorf("Seal of a string that leaves 0 = %x", got)
	}
	for _, s := range someTexts() {
		if got, want := cast.Seal(s), s+bigEndian(plainRest(s)); got != want {
			t.Errorf("Seal of %d bytes %.40x ends with %x, want %x", len(s), s, got[max(0, len(got)-8):], want[len(s):])
		}
	}
}

// P2.2, P2.3: what was sealed is opened as it was.
func TestOpen(t *testing.T) {
	if s, ok := cast.Open("a\x00\x00\x00\x00\x00\x00\x01\x61"); s != "a" || !ok {
		t.Errorf("Open of the chapter's example = %q, %v", s, ok)
	}
	if s, ok := cast.Open("\x00\x00\x00\x00\x00\x00\x00\x01"); s != "" || !ok {
		t.Errorf("Open of the sealed empty text = %q, %v", s, ok)
	}
	for _, s := range someTexts() {
		if got, ok := cast.Open(cast.Seal(s)); got != s || !ok {
			t.Errorf("%d bytes %.40x: opened %d bytes, %v", len(s), s, len(got), ok)
		}
		twice := cast.Seal(cast.Seal(s))
		if got, ok := cast.Open(twice); got != cast.Seal(s) || !ok {
			t.Errorf("%d bytes %.40x, sealed twice: opened %d bytes, %v", len(s), s, len(got), ok)
		}
	}
}

// refused tells whether the string is none that is sealed.
func refused(s string) bool {
	got, ok := cast.Open(s)
	return got == "" && !ok
}

// P2.2: what has no room for a seal is not sealed.
func TestOpenTooShort(t *testing.T) {
	for n := range 8 {
		for _, s := range []string{strings.Repeat("\x00", n), strings.Repeat("\xff", n), strings.Repeat("\x01", n), cast.Seal("")[8-n:], cast.Seal("ab")[:n]} {
			if !refused(s) {
				t.Errorf("%x was opened", s)
			}
		}
	}
}

// P2.2: a string with another one's seal, or with a byte more or less, is not sealed.
func TestOpenNotSealed(t *testing.T) {
	for _, s := range []string{
		"a\x00\x00\x00\x00\x00\x00\x01\x62",
		"\x00\x00\x00\x00\x00\x00\x00\x00",
		"\xff\xff\xff\xff\xff\xff\xff\xff",
		"\x01\x00\x00\x00\x00\x00\x00\x00",
		cast.Seal("a")[1:],
		"\x00" + cast.Seal(""),
		cast.Seal("ab") + "c",
		"c" + cast.Seal("ab"),
	} {
		if !refused(s) {
			t.Errorf("%x was opened", s)
		}
	}
}

// plainOpen is what Open is to return, by the words of the chapter alone.
func plainOpen(s string) (string, bool) {
	if len(s) < 8 || s[len(s)-8:] != bigEndian(plainRest(s[:len(s)-8])) {
		return "", false
	}
	return s[:len(s)-8], true
}

// P2.2: of the pieces of a sealed string, and of what is longer, those are opened that are sealed themselves (with bytes 0 some are).
func TestOpenPieces(t *testing.T) {
	for _, s := range someTexts() {
		whole := cast.Seal(s)
		n := len(whole)
		for _, piece := range []string{whole[:n-1], whole[1:], whole[:n/2], whole[n/2:], whole + "\x00", "\x00" + whole, whole + "\x01", whole + whole, s} {
			got, ok := cast.Open(piece)
			if want, is := plainOpen(piece); got != want || ok != is {
				t.Errorf("%d bytes %.40x: opened %d bytes, %v; want %d, %v", len(piece), piece, len(got), ok, len(want), is)
			}
		}
	}
}

// P2.2: a seal whose number leaves the remainder, but is not below P, is none.
func TestOpenNotBelowP(t *testing.T) {
	for _, s := range someTexts() {
		for k := uint64(1); k <= 8; k++ {
			n := cast.Rest(s) + k*prime
			if n < k*prime { // more than a uint64 holds
				continue
			}
			if !refused(s + bigEndian(n)) {
				t.Errorf("%d bytes %.40x: opened with the seal %x", len(s), s, bigEndian(n))
			}
		}
	}
}

// P2.4: no single byte can be another one.
func TestOneByteChanged(t *testing.T) {
	for _, s := range []string{"", "a", "ab", restZero, strings.Repeat("\x00", 9), strings.Repeat("\xff", 17), "some text that is sealed"} {
		whole := cast.Seal(s)
		for i := range whole {
			for d := 1; d < 256; d++ {
				b := []byte(whole)
				b[i] += byte(d)
				if !refused(string(b)) {
					t.Errorf("%x was opened as if it were %x", b, whole)
				}
			}
		}
	}
}

// P2.4: seven bytes side by side can't be others, in the text, in the seal, and across the end of the text.
func TestSevenBytesChanged(t *testing.T) {
	g := rand.New(rand.NewPCG(2, 4))
	ways := []func(b byte) byte{
		func(b byte) byte { return b ^ byte(1+g.Uint32()%255) },
		func(b byte) byte { return byte(g.Uint32()) },
		func(b byte) byte { return b + 1 },
		func(b byte) byte { return b - 1 },
		func(b byte) byte { return 0 },
		func(b byte) byte { return 255 },
		func(b byte) byte { return ^b },
	}
	for _, s := range someTexts() {
		whole := cast.Seal(s)
		first := max(0, len(whole)-40)
		for at := first; at < len(whole); at++ {
			for n := 1; n <= 7 && at+n <= len(whole); n++ {
				for _, way := range ways {
					b := []byte(whole)
					for i := at; i < at+n; i++ {
						b[i] = way(b[i])
					}
					if string(b) != whole && !refused(string(b)) {
						t.Errorf("%x was opened, though %d bytes from %d on were changed", b, n, at)
					}
				}
			}
		}
	}
}

// P2.4: where the text's number grows by 1 or shrinks by 1, no multiple of 2^56 that is added to the seal makes up for it, though 2^61 leaves 1.
func TestChangedAcrossTheEnd(t *testing.T) {
	for _, s := range someTexts() {
		if s == "" {
			continue
		}
		whole := cast.Seal(s)
		for _, last := range []int{-1, 1} {
			for d := range 256 {
				b := []byte(whole)
				b[len(s)-1] = byte(int(b[len(s)-1]) + last)
				b[len(s)] += byte(d)
				if !refused(string(b)) {
					t.Errorf("%d bytes %.40x: opened with %d at the last byte, and %d at the seal's first", len(s), s, last, d)
				}
			}
		}
	}
}

// R5: what is opened shares no memory with what it was cut from.
func TestOpenIsNewMemory(t *testing.T) {
	for _, s := range []string{"a", "abcdef", strings.Repeat("x", 5000)} {
		whole := cast.Seal(s)
		got, ok := cast.Open(whole)
		if !ok || got != s {
			t.Fatalf("%d bytes were not opened", len(s))
		}
		p, w := uintptr(unsafe.Pointer(unsafe.StringData(got))), uintptr(unsafe.Pointer(unsafe.StringData(whole)))
		if p >= w && p < w+uintptr(len(whole)) {
			t.Errorf("of %d bytes: the text lies in the sealed string", len(s))
		}
	}
}
