package token_test

import (
	"strings"
	"testing"

	"stepstone/api"
	"stepstone/token"
)

// filled is a source of so many bytes: the text, then blanks.
func filled(s string, n int) string { return s + strings.Repeat(" ", n-len(s)) }

// P11.1: as many bytes as a source may have are read, whatever they are; one more is too long, whatever else is wrong.
func TestReadLong(t *testing.T) {
	for _, s := range []string{"", "x", ";;", "// a", "2.5e3", "// a\n"} {
		want, _ := token.Read(s)
		for _, n := range []int{mostBytes - 1, mostBytes} {
			reads(t, filled(s, n), written(want))
		}
		for _, n := range []int{mostBytes + 1, mostBytes + 2, 2 * mostBytes, 1 << 20} {
			fails(t, filled(s, n), api.ErrLong, 0)
		}
	}
	long := strings.Repeat("x", mostBytes)
	reads(t, long, "0 name "+long)
	fails(t, long+"x", api.ErrLong, 0)
	long = strings.Repeat("7", mostBytes)
	reads(t, long, "0 number "+long)
	fails(t, long[1:]+"x", api.ErrLex, 0)
	reads(t, "//"+long[2:], "")
	fails(t, "//"+long[1:], api.ErrLong, 0)
	reads(t, filled("", mostBytes-1)+"x", "19999 name x")
	fails(t, filled("", mostBytes-1)+"#", api.ErrLex, mostBytes-1)
	fails(t, filled("", mostBytes)+"#", api.ErrLong, 0)
}

// P11.1: a source that is too long and has other faults too is too long.
func TestReadLongFirst(t *testing.T) {
	for _, s := range []string{"#", "1x", "_", "1e12345", "1.2.3", "\x00", "a #"} {
		fails(t, filled(s, mostBytes+1), api.ErrLong, 0)
		fails(t, filled("", mostBytes+1-len(s))+s, api.ErrLong, 0)
	}
	fails(t, strings.Repeat("#", mostBytes+1), api.ErrLong, 0)
	fails(t, strings.Repeat(";", mostBytes+1), api.ErrLong, 0)
	fails(t, strings.Repeat("\xff", mostBytes), api.ErrLex, 0)
}

// P11.1: as many tokens as there may be are read; one more is a fault at its place.
func TestReadFull(t *testing.T) {
	by := newModel()
	for _, piece := range []string{";", "x ", "1\n", "==", "ab\t", "/\r", "0  ", "[", "e5\n"} {
		full := strings.Repeat(piece, mostTokens)
		for _, behind := range []string{"", " ", "\n", "// a", "//", "//;\n", " \t\r\n"} {
			if l := by.check(t, full+behind); len(l) != mostTokens {
				t.Errorf("Read(%s): %d tokens", shown(full+behind), len(l))
			}
			for _, more := range []string{";", "x", "1", "==", "/", "1.5e3", ";;", "; ;", "x y"} {
				if !strings.HasPrefix(behind, "//") || strings.HasSuffix(behind, "\n") {
					fails(t, full+behind+more, api.ErrFull, len(full)+len(behind))
				}
			}
		}
		by.check(t, full[len(piece):])
	}
	fails(t, strings.Repeat(";", mostBytes), api.ErrFull, mostTokens)
	fails(t, strings.Repeat("x\n", mostBytes/2), api.ErrFull, 2*mostTokens)
}

// P11.1: at the place of the first token too many, and before it, what is no token is the first fault; behind it, it is not.
func TestReadFullOrNoToken(t *testing.T) {
	full := strings.Repeat("; ", mostTokens)
	for _, bad := range []string{"#", "\x00", "_", "1x", "1e12345", "1.2.3", ".", "!", "\xff"} {
		fails(t, full+bad, api.ErrLex, len(full))
		fails(t, full+bad+" ; ;", api.ErrLex, len(full))
		fails(t, full+" \n"+bad, api.ErrLex, len(full)+2)
		fails(t, full+"// a\n"+bad+"\n;", api.ErrLex, len(full)+5)
		fails(t, bad+" "+full, api.ErrLex, 0)
		fails(t, full[:2000]+bad+" "+full, api.ErrLex, 2000)
		fails(t, full[2:]+bad+" ;", api.ErrLex, len(full)-2)
		fails(t, full[2:]+";"+bad, api.ErrLex, len(full)-1)
		fails(t, full+"; "+bad, api.ErrFull, len(full))
		fails(t, full+";\n"+bad, api.ErrFull, len(full))
		fails(t, full+"x;"+bad, api.ErrFull, len(full))
		fails(t, full+"//"+bad+"\n; "+bad, api.ErrFull, len(full)+3+len(bad))
		reads(t, full[:4]+"//"+bad, "0 sign ;|2 sign ;")
	}
	fails(t, full+"1 x", api.ErrFull, len(full))
	fails(t, full+"1x", api.ErrLex, len(full))
}
