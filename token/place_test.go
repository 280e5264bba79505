package token_test

import (
	"math"
	"math/rand/v2"
	"strings"
	"testing"

	"stepstone/token"
)

// isPlace checks the line and the column.
func isPlace(t *testing.T, s string, at, line, column int) {
	t.Helper()
	if l, c := token.Place(s, at); l != line || c != column {
		t.Errorf("Place(%s, %d) = %d, %d, want %d, %d", shown(s), at, l, c, line, column)
	}
}

// P11.2: each place of a source of some lines, empty ones among them.
func TestPlaceByHand(t *testing.T) {
	for _, c := range []struct{ at, line, column int }{
		{0, 1, 1}, {1, 1, 2}, {2, 1, 3}, // the line feed itself
		{3, 2, 1}, {4, 3, 1}, {5, 3, 2}, {6, 3, 3}, {7, 3, 4}, {8, 4, 1}, {9, 4, 2}, // the end
	} {
		isPlace(t, "ab\n\ncd;\ne", c.at, c.line, c.column)
	}
}

// P11.2: places below 0, and above the length, count as these.
func TestPlaceBeyond(t *testing.T) {
	for _, c := range []struct {
		s            string
		line, column int
	}{{"", 1, 1}, {"a", 1, 2}, {"\n", 2, 1}, {"ab\n", 2, 1}, {"ab\nc", 2, 2}, {"\n\n", 3, 1}, {"\na\n", 3, 1}, {"ab\r\ncd", 2, 3}} {
		for _, at := range []int{0, -1, -2, -100, math.MinInt, math.MinInt + 1, math.MinInt32} {
			isPlace(t, c.s, at, 1, 1)
		}
		for _, more := range []int{0, 1, 2, 100} {
			isPlace(t, c.s, len(c.s)+more, c.line, c.column)
		}
		for _, at := range []int{math.MaxInt, math.MaxInt - 1, math.MaxInt32} {
			isPlace(t, c.s, at, c.line, c.column)
		}
	}
}

// P11.2: at a line feed, which belongs to the line that it ends; behind one; at the last byte; at the length.
func TestPlaceAtLineFeeds(t *testing.T) {
	isPlace(t, "\n", 0, 1, 1)
	isPlace(t, "\n", 1, 2, 1)
	isPlace(t, "\n\n", 1, 2, 1)
	isPlace(t, "a\nb", 1, 1, 2)
	isPlace(t, "a\nb", 2, 2, 1)
	isPlace(t, "a\nb", 3, 2, 2)
	isPlace(t, "a\nb\n", 3, 2, 2)
	isPlace(t, "a\nb\n", 4, 3, 1)
	isPlace(t, "abc", 2, 1, 3)
	isPlace(t, "abc", 3, 1, 4)
}

// P11.2: bytes are counted, and line feeds alone divide lines, whatever else is in the source.
func TestPlaceOfOtherBytes(t *testing.T) {
	isPlace(t, "a\rb", 2, 1, 3)
	isPlace(t, "a\r\nb", 3, 2, 1)
	isPlace(t, "\t\tx", 2, 1, 3)
	isPlace(t, "é\nñx", 2, 1, 3)
	isPlace(t, "é\nñx", 5, 2, 3)
	isPlace(t, "\x00\xff\x0c\x0b\x85\n#", 6, 2, 1)
	isPlace(t, "a\u2028b", 4, 1, 5)
	isPlace(t, "//\n/", 3, 2, 1)
}

// P11.2: sources of any length, also ones that Read says are too long.
func TestPlaceLong(t *testing.T) {
	s := strings.Repeat("0123456\n", 1<<17)
	for _, at := range []int{0, 7, 8, 9, 19999, 20000, 20001, 1<<20 - 1, 1 << 20} {
		isPlace(t, s, at, 1+at/8, 1+at%8)
	}
	isPlace(t, strings.Repeat("x", 1<<20), 1<<20-5, 1, 1<<20-4)
	isPlace(t, strings.Repeat("\n", 1<<20), 1<<20-5, 1<<20-4, 1)
}

// P11.2: every place of many sources, held against a walk from byte to byte.
func TestPlaceWalk(t *testing.T) {
	g := rand.New(rand.NewPCG(11, 2))
	for range 500 {
		s := anyOf(g, []string{"\n", "a", "b;", "\r", " ", "é", "//", "\n\n"}, g.IntN(60))
		line, column := 1, 1
		for at := range len(s) {
			isPlace(t, s, at, line, column)
			column++
			if s[at] == '\n' {
				line, column = line+1, 1
			}
		}
		isPlace(t, s, len(s), line, column)
		isPlace(t, s, len(s)+1, line, column)
	}
}
