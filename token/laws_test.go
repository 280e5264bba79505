package token_test

import (
	"math/rand/v2"
	"strconv"
	"strings"
	"testing"

	"stepstone/api"
	"stepstone/token"
)

// lawful checks tokens by the words of P11.3 alone.
func lawful(t *testing.T, s string, l []api.Token) {
	t.Helper()
	end := 0
	for i, x := range l {
		switch {
		case x.At < end:
			t.Errorf("Read(%s): token %d, at %d, begins before the end of the one ahead of it", shown(s), i, x.At)
			return
		case x.Text == "" || !strings.HasPrefix(s[min(x.At, len(s)):], x.Text):
			t.Errorf("Read(%s): token %d, %q, is not at %d", shown(s), i, x.Text, x.At)
			return
		case !isGap(s[end:x.At]):
			t.Errorf("Read(%s): %q is ahead of token %d", shown(s), s[end:x.At], i)
			return
		}
		end = x.At + len(x.Text)
	}
	// The last comment need not have an end.
	if !isGap(s[end:] + "\n") {
		t.Errorf("Read(%s): %q is behind the last token", shown(s), s[end:])
	}
	againSame(t, s, l)
}

// isGap tells whether a text has nothing but blanks, and comments that end, and does not end within one.
func isGap(s string) bool {
	for len(s) > 0 {
		line, behind, whole := strings.Cut(s, "\n")
		code, _, comment := strings.Cut(line, "//")
		if strings.Trim(code, " \t\r") != "" || comment && !whole {
			return false
		}
		s = behind
	}
	return true
}

// againSame checks that the texts, joined with spaces, are the same tokens. (Together with the spaces they may be too long.)
func againSame(t *testing.T, s string, l []api.Token) {
	t.Helper()
	joined := strings.Join(texts(l), " ")
	again, f := token.Read(joined)
	if len(joined) > mostBytes {
		return
	}
	if f != (api.Fault{}) || !sameTokens(l, again) {
		t.Errorf("Read(%s): joined with spaces they are %s, %s", shown(s), shown(written(again)), shownFault(f))
	}
	at := 0
	for i, x := range again {
		if x.At != at {
			t.Errorf("Read(%s): token %d of the joined ones is at %d, want %d", shown(s), i, x.At, at)
		}
		at += len(x.Text) + 1
	}
}

// anyOf is so many of the pieces, one after the other.
func anyOf(g *rand.Rand, pieces []string, n int) string {
	var out strings.Builder
	for range n {
		out.WriteString(pieces[g.IntN(len(pieces))])
	}
	return out.String()
}

// anyName and anyNumber are tokens of all forms.
func anyName(g *rand.Rand) string {
	return string(letters[g.IntN(len(letters))]) + anyOf(g, strings.Split(letters+digits+"___", ""), g.IntN(6))
}

func anyNumber(g *rand.Rand) string {
	out := strconv.Itoa(g.IntN(1 << (1 + g.IntN(30))))
	if g.IntN(2) == 0 {
		out += "." + anyOf(g, strings.Split(digits, ""), 1+g.IntN(5))
	}
	if g.IntN(2) == 0 {
		out += "e" + []string{"", "+", "-"}[g.IntN(3)] + anyOf(g, strings.Split(digits, ""), 1+g.IntN(4))
	}
	return out
}

func anyComment(g *rand.Rand) string {
	return "//" + anyOf(g, []string{"a", " ", "/", "//", "1x", "#", "\"", "'", "\r", "\xff", "\x00", "==", "."}, g.IntN(5)) + "\n"
}

// anyToken is a token's text, and its kind.
func anyToken(g *rand.Rand) (string, uint8) {
	switch g.IntN(4) {
	case 0:
		return anyName(g), api.TkName
	case 1:
		return anyNumber(g), api.TkNumber
	default:
		return signs()[g.IntN(len(signs()))], api.TkSign
	}
}

// anyGap is a blank, and some blanks and comments. (A comment right behind a slash would make that one a part of it.)
func anyGap(g *rand.Rand) string {
	out := blanks()[g.IntN(4)]
	for {
		if g.IntN(3) == 0 {
			out += anyComment(g)
		} else {
			out += blanks()[g.IntN(4)]
		}
		if g.IntN(2) == 0 {
			return out
		}
	}
}

// P11.1, P11.3: tokens that are written with gaps between them are read as they were written.
func TestReadWhatIsWritten(t *testing.T) {
	g := rand.New(rand.NewPCG(11, 1))
	for range 2000 {
		var s string
		var want []api.Token
		if g.IntN(2) == 0 {
			s = anyGap(g)
		}
		for range g.IntN(30) {
			text, kind := anyToken(g)
			want = append(want, api.Token{Kind: kind, Text: text, At: len(s)})
			s += text + anyGap(g)
		}
		reads(t, s, written(want))
		if cut := strings.TrimRight(s, " \t\r\n"); g.IntN(2) == 0 && len(want) > 0 {
			reads(t, cut, written(want))
		}
	}
}

// P11.1, P11.3: tokens, gaps and what is no token, side by side without anything between, are read as the model reads them.
func TestReadSideBySide(t *testing.T) {
	by := newModel()
	g := rand.New(rand.NewPCG(11, 3))
	for i := range 20000 {
		var s string
		for range g.IntN(12) {
			switch n := g.IntN(40); {
			case n == 0 && i%4 == 0:
				s += anyOf(g, []string{"#", "_", ".", "!", "\x00", "\x7f", "\x80", "\x0c", "\"", "é", "1e12345", "e", "E"}, 1)
			case n < 5:
				s += anyComment(g)
			case n < 10:
				s += anyGap(g)
			default:
				text, _ := anyToken(g)
				s += text
			}
		}
		by.check(t, s)
	}
}

// P11.1, P11.3: texts of any bytes, and of those that matter.
func TestReadAnyBytes(t *testing.T) {
	by := newModel()
	g := rand.New(rand.NewPCG(11, 4))
	matter := strings.Split("aeEzZ_0159.+-=!<>/{};: \t\n\r", "")
	for i := range 40000 {
		s := anyOf(g, matter, g.IntN(20))
		if i%4 == 0 {
			at := g.IntN(len(s) + 1)
			s = s[:at] + string([]byte{byte(g.IntN(256))}) + s[at:]
		}
		by.check(t, s)
	}
}

// P11.1, P11.3: all texts of up to five of the bytes that decide between tokens.
func TestReadAllShort(t *testing.T) {
	by := newModel()
	bytes := strings.Split("ae_1.+=/!\n ", "")
	short := []string{""}
	for range 4 {
		var longer []string
		for _, s := range short {
			for _, b := range bytes {
				longer = append(longer, s+b)
			}
		}
		for _, s := range longer {
			by.check(t, s)
		}
		short = longer
	}
	for _, s := range short {
		if strings.HasPrefix(s, "1") || strings.Contains(s, "e") {
			for _, b := range bytes {
				by.check(t, s+b)
			}
		}
	}
}

// P11.1, P11.3: sources of about as many bytes, and of about as many tokens, as there may be.
func TestReadGreat(t *testing.T) {
	by := newModel()
	g := rand.New(rand.NewPCG(11, 5))
	for i := range 60 {
		var s strings.Builder
		for s.Len() < mostBytes-100 {
			text, _ := anyToken(g)
			s.WriteString(text)
			if i%3 > 0 {
				s.WriteString(anyGap(g)[:1] + "\n")
			}
			if i%3 == 2 {
				s.WriteString("// " + anyName(g) + "\n")
			}
		}
		for s.Len() < mostBytes-2+i%5 {
			s.WriteString(" ")
		}
		by.check(t, s.String())
	}
}
