package notch_test

import (
	"math"
	"strings"
	"testing"
	"unsafe"

	"stepstone/notch"
)

const full = "\xff\xff\xff\xff\xff\xff\xff\xff"

// spoiled tells whether the reader is bad, and stays so, with nothing left, whatever is asked of it.
func spoiled(r *notch.Reader) bool {
	for range 2 {
		if !r.Bad() || r.Left() != 0 || r.Num() != 0 || r.Text(100) != "" || r.Text(0) != "" || r.Take(0) != "" || r.Take(1) != "" || r.Take(-1) != "" {
			return false
		}
	}
	return r.Bad() && r.Left() == 0
}

// P1.2, P1.3: each number is read, the position goes past it, and what follows it stays.
func TestReadNum(t *testing.T) {
	for _, n := range edges() {
		for _, after := range []string{"", "\x00", "\x09", "abc"} {
			r := notch.Open(notch.Num(n) + after)
			if got := r.Num(); got != n || r.Bad() || r.Left() != len(after) {
				t.Errorf("%d before %q: read %d, left %d, bad %v", n, after, got, r.Left(), r.Bad())
			}
			if got := r.Take(len(after)); got != after {
				t.Errorf("behind %d: %q, want %q", n, got, after)
			}
		}
	}
	r := notch.Open("\x02\x01\x02\x05")
	if r.Num() != 258 || r.Left() != 1 || r.Num() != 0 || !r.Bad() || r.Left() != 0 {
		t.Error("the chapter's example")
	}
}

// P1.2: a 0 that follows a number without bytes of its own is the next number.
func TestReadZeros(t *testing.T) {
	r := notch.Open("\x00\x00\x01\x00")
	if r.Num() != 0 || r.Bad() || r.Left() != 3 {
		t.Error("the first 0")
	}
	if r.Num() != 0 || r.Bad() || r.Left() != 2 {
		t.Error("the second 0")
	}
	if r.Num() != 0 || !spoiled(r) {
		t.Error("01 00 is not a 0")
	}
}

// P1.2, P1.4: where there is no number the reader becomes bad, and stays so.
func TestReadNoNum(t *testing.T) {
	for _, s := range []string{
		"",                     // nothing is left
		"\x09",                 // above 8, alone
		"\x09" + full + "\x01", // above 8, with as many bytes after it
		"\xff" + strings.Repeat("\x01", 255),
		"\x01", // too early an end
		"\x02\x01",
		"\x08\x01\x01\x01\x01\x01\x01\x01",
		"\x01\x00", // begins with 0
		"\x02\x00\x01",
		"\x02\x00\x00",
		"\x08\x00" + full,
		"\x02\x00", // begins with 0, and ends too early
	} {
		r := notch.Open(s)
		if got := r.Num(); got != 0 || !spoiled(r) {
			t.Errorf("%x: Num = %d, left %d, bad %v", s, got, r.Left(), r.Bad())
		}
		r = notch.Open(s)
		if got := r.Text(math.MaxInt); got != "" || !spoiled(r) {
			t.Errorf("%x: Text = %q, left %d, bad %v", s, got, r.Left(), r.Bad())
		}
	}
}

// P1.2: strings are read, also empty ones, as long as most allows it.
func TestReadText(t *testing.T) {
	for _, s := range []string{"", "a", "ab", "\x00", "\x00\xff\xc3", strings.Repeat("x", 255), strings.Repeat("y", 256), strings.Repeat("z", 65536)} {
		for _, most := range []int{len(s), len(s) + 1, math.MaxInt} {
			r := notch.Open(notch.Text(s) + "c")
			if r.Text(most) != s || r.Bad() || r.Left() != 1 || r.Take(1) != "c" {
				t.Errorf("a string of %d bytes, most %d", len(s), most)
			}
		}
		for _, most := range []int{len(s) - 1, -1, math.MinInt} {
			r := notch.Open(notch.Text(s) + "c")
			if r.Text(most) != "" || !spoiled(r) {
				t.Errorf("a string of %d bytes with most %d", len(s), most)
			}
		}
	}
}

// P1.2: a string that has fewer bytes than its length says is not there, however great that length is.
func TestReadNoText(t *testing.T) {
	for _, s := range []string{
		"\x01\x01",
		"\x01\x03ab",
		"\x02\x01\x00ab",
		"\x08\x7f\xff\xff\xff\xff\xff\xff\xffab",
		"\x08\x80\x00\x00\x00\x00\x00\x00\x00ab",
		"\x08\x80\x00\x00\x00\x00\x00\x00\x02ab",
		"\x08" + full + "ab",
	} {
		for _, most := range []int{0, 2, math.MaxInt, -1} {
			r := notch.Open(s)
			if got := r.Text(most); got != "" || !spoiled(r) {
				t.Errorf("%x, most %d: %q, left %d, bad %v", s, most, got, r.Left(), r.Bad())
			}
		}
	}
}

// P1.2: the next bytes, none, all; a count below 0, or above what is left.
func TestTake(t *testing.T) {
	r := notch.Open("abc")
	if r.Take(0) != "" || r.Take(2) != "ab" || r.Left() != 1 || r.Take(1) != "c" || r.Take(0) != "" || r.Bad() || r.Left() != 0 {
		t.Error("abc, piece by piece")
	}
	if r.Take(1) != "" || !spoiled(r) {
		t.Error("a byte behind the end")
	}
	for _, n := range []int{-1, math.MinInt, 4, math.MaxInt} {
		r := notch.Open("abc")
		if r.Take(n) != "" || !spoiled(r) {
			t.Errorf("Take(%d) of abc", n)
		}
	}
	if r := notch.Open(""); r.Take(0) != "" || r.Bad() {
		t.Error("Take(0) of the empty string")
	}
	if r := notch.Open(""); r.Take(-1) != "" || !spoiled(r) {
		t.Error("Take(-1) of the empty string")
	}
}

// P1.3: a new reader has all of its string left, and is not bad; to ask for that changes nothing.
func TestLeftAndBad(t *testing.T) {
	for _, s := range []string{"", "\x00", "\x09", "abc", strings.Repeat("x", 1000)} {
		r := notch.Open(s)
		for range 3 {
			if r.Left() != len(s) || r.Bad() {
				t.Errorf("%q: left %d, bad %v", s, r.Left(), r.Bad())
			}
		}
		if r.Take(len(s)) != s || r.Bad() || r.Left() != 0 {
			t.Errorf("%q: taken as a whole, left %d, bad %v", s, r.Left(), r.Bad())
		}
	}
}

// P1.3: a nil reader is bad, and has nothing.
func TestNilReader(t *testing.T) {
	var r *notch.Reader
	if !spoiled(r) {
		t.Error("a nil reader")
	}
}

// DOC.md, Words: a reader that no Open made returns zero values, whatever was asked of it before.
func TestReaderThatNoOpenMade(t *testing.T) {
	for _, r := range []*notch.Reader{new(notch.Reader), {}} {
		for range 2 {
			if r.Bad() || r.Left() != 0 || r.Num() != 0 || r.Text(9) != "" || r.Text(-1) != "" || r.Take(0) != "" || r.Take(1) != "" || r.Take(-1) != "" {
				t.Error("not all of it is zero")
			}
		}
	}
}

// R4: readers of one string do not see each other.
func TestReadersApart(t *testing.T) {
	s := notch.Num(5) + "abc"
	a, b := notch.Open(s), notch.Open(s)
	if a.Num() != 5 || b.Left() != 5 || a.Take(9) != "" || !a.Bad() || b.Bad() || b.Num() != 5 || b.Take(3) != "abc" {
		t.Error("one reader moved another")
	}
}

// P1.4: what was put, in any order, is read as it was, with nothing left.
func TestPutAndRead(t *testing.T) {
	texts := []string{"", "a", "\x00\x09\xff", strings.Repeat("long", 100)}
	var all strings.Builder
	for i, n := range edges() {
		all.WriteString(notch.Num(n))
		all.WriteString(notch.Text(texts[i%len(texts)]))
	}
	r := notch.Open(all.String())
	for i, n := range edges() {
		if got := r.Num(); got != n {
			t.Errorf("number %d: %d, want %d", i, got, n)
		}
		if got, want := r.Text(400), texts[i%len(texts)]; got != want {
			t.Errorf("string %d: %q, want %q", i, got, want)
		}
	}
	if r.Left() != 0 || r.Bad() {
		t.Errorf("in the end %d left, bad %v", r.Left(), r.Bad())
	}
}

// beginsWithNum tells by the words of the chapter alone whether a number's encoding comes first.
func beginsWithNum(s string) bool {
	for n := 1; n <= len(s) && n <= 9; n++ {
		if int(s[0]) == n-1 && (n == 1 || s[1] != 0) {
			return true
		}
	}
	return false
}

// P1.2, P1.4: of all short strings of such bytes, a number is read where there is one, and just its encoding.
func TestReadIsWhatIsWritten(t *testing.T) {
	var try func(s string)
	try = func(s string) {
		r := notch.Open(s)
		n := r.Num()
		if r.Bad() == beginsWithNum(s) || r.Bad() && n != 0 {
			t.Errorf("%x: read %d, bad is %v", s, n, r.Bad())
		}
		if !r.Bad() && notch.Num(n) != s[:len(s)-r.Left()] {
			t.Errorf("%x: read %d, whose encoding is %x, with %d left", s, n, notch.Num(n), r.Left())
		}
		r = notch.Open(s)
		text := r.Text(3)
		if !r.Bad() && notch.Text(text) != s[:len(s)-r.Left()] {
			t.Errorf("%x: read %q, with %d left", s, text, r.Left())
		}
		if r.Bad() && (text != "" || !spoiled(r)) {
			t.Errorf("%x: read %q, bad, with %d left", s, text, r.Left())
		}
		if len(s) < 6 {
			for _, b := range []byte{0, 1, 2, 3, 8, 9, 255} {
				try(s + string([]byte{b}))
			}
		}
	}
	try("")
}

// P1.4: the pieces make up the string, however it is cut.
func TestTakesMakeUpTheString(t *testing.T) {
	s := "\x00\x01abc\xff\xfe defgh\x09"
	for step := 1; step <= len(s); step++ {
		r := notch.Open(s)
		whole := ""
		for range len(s) {
			whole += r.Take(min(step, r.Left()))
		}
		if whole != s || r.Bad() {
			t.Errorf("in steps of %d: %q, bad %v", step, whole, r.Bad())
		}
	}
}

// inside tells whether the piece lies in the memory of the whole.
func inside(piece, whole string) bool {
	p, w := uintptr(unsafe.Pointer(unsafe.StringData(piece))), uintptr(unsafe.Pointer(unsafe.StringData(whole)))
	return p >= w && p < w+uintptr(len(whole))
}

// R5: what is read is new memory.
func TestReadIsNewMemory(t *testing.T) {
	s := notch.Text("abcdef") + "ghi"
	r := notch.Open(s)
	if text := r.Text(9); text != "abcdef" || inside(text, s) {
		t.Error("Text shares memory with the string")
	}
	if piece := r.Take(3); piece != "ghi" || inside(piece, s) {
		t.Error("Take shares memory with the string")
	}
}
