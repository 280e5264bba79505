package token_test

import (
	"strings"
	"testing"
	"unsafe"

	"stepstone/api"
	"stepstone/token"
)

// begin is where a text is in memory.
func begin(s string) uintptr { return uintptr(unsafe.Pointer(unsafe.StringData(s))) }

// overlap tells whether texts share a byte of memory.
func overlap(a, b string) bool {
	return begin(a) < begin(b)+uintptr(len(b)) && begin(b) < begin(a)+uintptr(len(a))
}

// R5: what is read is new memory, and no two texts of it share theirs.
func TestReadIsNewMemory(t *testing.T) {
	s := strings.Join(append(signs(), "name", "x", "12.5e3", "x", ";", ";"), " ")
	l, f := token.Read(s)
	if f != (api.Fault{}) || len(l) != len(signs())+6 {
		t.Fatal(written(l), shownFault(f))
	}
	for i, x := range l {
		if overlap(x.Text, s) {
			t.Errorf("%q shares memory with the source", x.Text)
		}
		for _, y := range l[:i] {
			if overlap(x.Text, y.Text) {
				t.Errorf("%q and %q share memory", x.Text, y.Text)
			}
		}
	}
}

// R4, R5: what is done to a list that was returned, and behind it, is not seen in another one.
func TestReadAgain(t *testing.T) {
	for _, s := range []string{"", "x", "x1<=2.5e3;", strings.Repeat("a b ", 500)} {
		first, _ := token.Read(s)
		want := written(first)
		room := first[:cap(first)]
		for i := range room {
			room[i] = api.Token{Kind: 77, Text: "spoiled", At: -1}
		}
		second, f := token.Read(s)
		if f != (api.Fault{}) || written(second) != want {
			t.Errorf("Read(%s) = %s the second time, want %s", shown(s), shown(written(second)), shown(want))
		}
		for i := range room {
			if room[i].Text != "spoiled" {
				t.Errorf("Read(%s) wrote into an earlier list", shown(s))
			}
		}
	}
}

// R3, R4: a fault leaves nothing behind, and is the same the second time.
func TestReadFaultAgain(t *testing.T) {
	for _, s := range []string{"a 1x", "#", strings.Repeat(";", mostTokens+1), strings.Repeat(" ", mostBytes+1)} {
		_, f := token.Read(s)
		reads(t, "a;", "0 name a|1 sign ;")
		fails(t, s, f.E, f.At)
	}
}
