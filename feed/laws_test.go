package feed_test

import (
	"math/rand/v2"
	"slices"
	"strconv"
	"strings"
	"testing"

	"stepstone/api"
	"stepstone/feed"
	"stepstone/token"
)

// everyToken are tokens of all sorts, among them those that are wrong anywhere, and one that is too long.
func everyToken() []string {
	out := slices.Concat(signs(), taken())
	out = append(out, "n", "m", "k", "n1", "e", "nn", "0", "00", "1", "7", "18446744073709551616", "0.5", "2.50", "1e2", "1e-3", "12.5e+1", "0e-9999", "1e9999", "0.0")
	return append(out, strings.Repeat("3", mostNumeral), strings.Repeat("3", mostNumeral+1), "0."+strings.Repeat("0", mostNumeral))
}

// anyData are the tokens of data.
func anyData(g *rand.Rand, most int) []string {
	var out []string
	for i := range g.IntN(most + 1) {
		out = append(out, oneOf(g, "n", "m", "x_", "N", "int", "e")+strconv.Itoa(i), "=")
		if g.IntN(2) == 0 {
			out = append(append(out, anyNumber(g)...), ";")
			continue
		}
		out = append(out, "[")
		for j := range g.IntN(5) {
			if j > 0 {
				out = append(out, ",")
			}
			out = append(out, anyNumber(g)...)
		}
		out = append(out, "]", ";")
	}
	return out
}

// anyNumber are the tokens of a signed number.
func anyNumber(g *rand.Rand) []string {
	digits := func() string {
		out := strconv.Itoa(g.IntN(10))
		for g.IntN(3) > 0 {
			out += oneOf(g, "0", "0", strconv.Itoa(g.IntN(10)))
		}
		return out
	}
	text := digits()
	if g.IntN(40) == 0 {
		text = strings.Repeat(digits(), 90)[:90]
	}
	if g.IntN(3) == 0 {
		text += "." + digits()
	}
	if g.IntN(4) == 0 {
		text += "e" + oneOf(g, "", "+", "-") + oneOf(g, "0", "1", "02", "7", "30", "0000", "150")
	}
	if g.IntN(3) == 0 {
		return []string{"-", text}
	}
	return []string{text}
}

// joined is tokens as a text, with something between them.
func joined(g *rand.Rand, texts []string) string {
	gaps := []string{" ", " ", "\n", "\t", "  ", " // n = 1;\n", "//\n", "\r\n"}
	dense := g.IntN(3) == 0
	var out strings.Builder
	for i, text := range texts {
		// Between two signs, and between a sign and what is none, there need be nothing, unless it makes another sign.
		if i > 0 && !(dense && strings.Contains("[],;-", text)) && !(dense && strings.Contains("[],;-", texts[i-1])) {
			out.WriteString(oneOf(g, gaps...))
		}
		out.WriteString(text)
	}
	if g.IntN(2) == 0 {
		out.WriteString(oneOf(g, gaps...))
	}
	return out.String()
}

// P14.1: data of all sorts.
func TestAnyData(t *testing.T) {
	g := rand.New(rand.NewPCG(14, 1))
	m := newModel()
	for range 5000 {
		s := joined(g, anyData(g, 8))
		if f := m.check(t, s); f != (api.Fault{}) {
			t.Errorf("%s: %s", shown(s), shownFault(f))
		}
	}
}

// P14.1: each beginning of data of all sorts.
func TestBeginnings(t *testing.T) {
	g := rand.New(rand.NewPCG(14, 2))
	m := newModel()
	for range 300 {
		s := joined(g, anyData(g, 5))
		l, _ := token.Read(s)
		for _, x := range l {
			end := x.At + len(x.Text)
			for _, cut := range []string{s[:x.At], s[:end], s[:end] + " // ;", s[:end] + "\n\n"} {
				f := m.check(t, cut)
				if f != (api.Fault{}) && f != (api.Fault{E: api.ErrSyntax, At: len(cut)}) {
					t.Errorf("%s: %s", shown(cut), shownFault(f))
				}
				if isEnd := x.Text == ";" && cut != s[:x.At]; isEnd && f.E != api.OK {
					t.Errorf("%s: %s", shown(cut), shownFault(f))
				}
			}
		}
	}
}

// P14.1: data of all sorts with tokens changed, left out, doubled, put in or swapped.
func TestAnyChange(t *testing.T) {
	g := rand.New(rand.NewPCG(14, 3))
	m := newModel()
	every := everyToken()
	met := map[api.Errno]int{}
	for range 40000 {
		texts := anyData(g, 5)
		for range 1 + g.IntN(2) {
			texts = changed(g, texts, every)
		}
		met[m.check(t, joined(g, texts)).E]++
	}
	for _, e := range []api.Errno{api.OK, api.ErrSyntax, api.ErrThere, api.ErrLong} {
		if met[e] < 100 {
			t.Errorf("error %d was met %d times", e, met[e])
		}
	}
}

func changed(g *rand.Rand, texts, every []string) []string {
	if len(texts) == 0 {
		return []string{oneOf(g, every...)}
	}
	at, other := g.IntN(len(texts)), g.IntN(len(texts))
	switch g.IntN(7) {
	case 0:
		return slices.Delete(texts, at, at+1)
	case 1:
		return slices.Insert(texts, at, texts[at])
	case 2:
		return slices.Insert(texts, at, oneOf(g, every...))
	case 3:
		texts[at], texts[other] = texts[other], texts[at]
	case 4:
		// Often a name that is there already.
		texts[at] = texts[other]
	case 5:
		return append(texts, texts[:other]...)
	default:
		texts[at] = oneOf(g, every...)
	}
	return texts
}

// P14.1: ordinary data with each token changed to each other one, left out, doubled, and with each put in ahead of it.
func TestEveryChange(t *testing.T) {
	m := newModel()
	texts := strings.Fields("n = 3 ; y = [ 1.5 , - 2 , 7 ] ; k = - 1e2 ; none = [ ] ; one = [ 4 ] ;")
	check := func(l ...[]string) { m.check(t, strings.Join(slices.Concat(l...), " ")) }
	for i := range texts {
		check(texts[:i], texts[i+1:])
		check(texts[:i], texts[i:i+1], texts[i:])
		for _, text := range append(everyToken(), texts...) {
			check(texts[:i], []string{text}, texts[i+1:])
			check(texts[:i], []string{text}, texts[i:])
		}
	}
	for _, text := range append(everyToken(), texts...) {
		check(texts, []string{text})
	}
}

// P14.1: at each place of all short rows of some tokens, each token.
func TestAllShortRows(t *testing.T) {
	m := newModel()
	every := everyToken()
	some := []string{"n", "m", "=", "-", "1", "0.5", "[", "]", ",", ";"}
	n := 0
	var walk func(s string, left int)
	walk = func(s string, left int) {
		n++
		for _, text := range every {
			if left < 3 || slices.Contains(some, text) {
				m.check(t, s+text)
			}
		}
		for _, text := range some {
			// Where the text goes wrong ahead of its end, nothing behind that matters.
			f := m.check(t, s+text)
			if isOpen := f.E == api.OK || f == (api.Fault{E: api.ErrSyntax, At: len(s + text)}); isOpen && left > 0 && !t.Failed() {
				walk(s+text+" ", left-1)
			}
		}
	}
	walk("", 9)
	walk("n = 1 ; ", 7)
	walk("n = [ 1 , - 0.5 ", 5)
	if n < 500 {
		t.Errorf("%d rows of tokens", n)
	}
}

// P14.1: tokens in any order.
func TestAnyTokens(t *testing.T) {
	g := rand.New(rand.NewPCG(14, 4))
	m := newModel()
	every := everyToken()
	some := []string{"n", "m", "k", "=", "=", "-", "1", "2", "0.5", "[", "]", ",", ";", ";"}
	for range 40000 {
		var texts []string
		for range 1 + g.IntN(9) {
			texts = append(texts, oneOf(g, oneOf(g, every...), oneOf(g, some...), oneOf(g, some...)))
		}
		s := oneOf(g, "", "n =", "n = 1;", "n = [", "n = [1", "n = [1,", "y = 2.5; n = -", "n = [-1]") + " " + joined(g, texts)
		m.check(t, s)
	}
}

// P14.1: bytes in any order.
func TestAnyBytes(t *testing.T) {
	g := rand.New(rand.NewPCG(14, 5))
	m := newModel()
	for range 40000 {
		var out []byte
		for range g.IntN(12) {
			out = append(out, oneOf(g, []byte("nnmi0011..ee--+==[[]],,;;// \n\t#<_")...))
		}
		if g.IntN(10) == 0 && len(out) > 0 {
			out[g.IntN(len(out))] = byte(g.IntN(256))
		}
		m.check(t, oneOf(g, "", "n=", "n=[", "n=[1,", "n=1;")+string(out))
	}
}

// ofSize are data of so many tokens, which is at least 10, and bytes.
func ofSize(g *rand.Rand, tokens, bytes int) string {
	numbers := strings.Repeat("1,", (tokens-8)/2-1) + "2"
	if tokens%2 == 1 {
		numbers = "-" + numbers
	}
	s := "n=3;y=[" + numbers + "];"
	at := oneOf(g, 0, 4, 7, len(s)/2, len(s)-1, len(s))
	return s[:at] + strings.Repeat(oneOf(g, " ", "\n"), max(0, bytes-len(s))) + s[at:]
}

// P14.1: data that have about as many tokens, or bytes, as may be, right and with one token changed.
func TestLongData(t *testing.T) {
	g := rand.New(rand.NewPCG(14, 6))
	m := newModel()
	met := map[api.Errno]int{}
	for tokens := mostTokens - 3; tokens <= mostTokens+3; tokens++ {
		for bytes := mostBytes - 3; bytes <= mostBytes+3; bytes++ {
			s := ofSize(g, tokens, bytes)
			met[m.check(t, s).E]++
			l, _ := token.Read(s)
			if len(l) == 0 {
				continue
			}
			x := oneOf(g, l...)
			for _, text := range []string{";", "n", "-", "0", "]", ","} {
				met[m.check(t, s[:x.At]+text+s[x.At+len(x.Text):]).E]++
			}
		}
	}
	for _, e := range []api.Errno{api.OK, api.ErrSyntax, api.ErrLong, api.ErrFull} {
		if met[e] < 10 {
			t.Errorf("error %d was met %d times", e, met[e])
		}
	}
}

// P14.1: many numbers that are the longest ones as integers, or by their divisors.
func TestGreatNumbers(t *testing.T) {
	for _, text := range []string{"1e9999", "1e-9999", "9e-9999", "7.5e-9999", "-3e9998", strings.Repeat("9", 90) + "e-9999"} {
		numbers := strings.TrimSuffix(strings.Repeat(text+",", 19000/(len(text)+1)/4), ",")
		l, f := feed.Read("y=[" + numbers + "];")
		if f != (api.Fault{}) || len(l) != 1 || len(l[0].Nums) != strings.Count(numbers, ",")+1 {
			t.Errorf("%s: %s", text, shownFault(f))
			continue
		}
		want, isBelow := strings.CutPrefix(text, "-")
		sign := ""
		if isBelow {
			sign = "-"
		}
		for _, x := range []api.Frac{l[0].Nums[0], l[0].Nums[len(l[0].Nums)-1]} {
			if toldNum(x) != number(want, sign) {
				t.Errorf("%s is read as %s", text, shown(toldNum(x)))
			}
		}
	}
}
