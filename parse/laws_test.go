package parse_test

import (
	"math/rand/v2"
	"slices"
	"strings"
	"testing"

	"stepstone/api"
	"stepstone/parse"
	"stepstone/token"
	"stepstone/tree"
)

// P13.1 to P13.3: programs that the grammar makes, with brackets where they need not be, too.
func TestAnyProgram(t *testing.T) {
	g := rand.New(rand.NewPCG(13, 2))
	m := newModel()
	a := newAny(g, m.grammar)
	most := 0
	for range 2000 {
		texts := a.texts("Program", 8+g.IntN(8))
		if len(texts) > 400 {
			continue
		}
		most = max(most, len(texts))
		s := joined(g, texts)
		if f := m.check(t, s); f != (api.Fault{}) {
			t.Errorf("%s: %s", shown(s), shownFault(f))
		}
	}
	if most < 300 {
		t.Errorf("the longest program has %d tokens", most)
	}
}

// The same of sums.
func TestAnySum(t *testing.T) {
	g := rand.New(rand.NewPCG(13, 3))
	m := newModel()
	a := newAny(g, m.grammar)
	for range 4000 {
		texts := a.texts("Sum", 4+g.IntN(14))
		if len(texts) > 200 {
			continue
		}
		s := joined(g, texts)
		if f := m.checkExpr(t, s); f.E != api.OK && f.E != api.ErrDepth {
			t.Errorf("%s: %s", shown(s), shownFault(f))
		}
	}
}

// P13.1, P13.3: each beginning of a program: all that has to follow is missing, so the fault is at its end.
func TestBeginnings(t *testing.T) {
	g := rand.New(rand.NewPCG(13, 4))
	m := newModel()
	a := newAny(g, m.grammar)
	sources := []string{strings.Join(strings.Fields(strings.NewReplacer("// what is given", "", "// observed", "").Replace(ordinaryProgram())), " ")}
	for range 100 {
		sources = append(sources, joined(g, a.texts("Program", 9)))
	}
	for _, s := range sources {
		if len(s) > 1500 {
			continue
		}
		l, _ := token.Read(s)
		ends := 0
		for _, x := range l {
			for _, cut := range []string{s[:x.At], s[:x.At+len(x.Text)], s[:x.At] + " // x", s[:x.At] + " // x\n\t"} {
				p, f := parse.Parse(cut)
				if f != (api.Fault{}) && (f != (api.Fault{E: api.ErrSyntax, At: len(cut)}) || !isZero(p)) {
					t.Errorf("Parse(%s): %s", shown(cut), shownFault(f))
				}
				if f == (api.Fault{}) {
					ends++
				}
			}
			m.check(t, s[:x.At])
		}
		if ends > 4*7 {
			t.Errorf("%s: %d of its beginnings are programs", shown(s), ends)
		}
	}
}

// P13.1 to P13.3: at each place of some beginnings of programs, each token: it may follow if the grammar says so. From there on by one that may.
func TestWalks(t *testing.T) {
	g := rand.New(rand.NewPCG(13, 5))
	m := newModel()
	every := everyToken()
	met := map[string]int{}
	begins := []string{"", "model { ", "model { if ( a < b ) { } ", "transformed data { ", "parameters { real < lower = a , upper = "}
	for i := range 80 {
		start, s, read := "Program", begins[i%5], reading(parse.Parse)
		if i%6 == 5 {
			start, s, read = "Sum", "", reading(parse.Expr)
		}
		c, o := chartBehind(m.grammar, start, s)
		for range 70 {
			if f := read(s); f.E != api.OK != (c.whole() == nil) {
				t.Fatalf("%s: %s", shown(s), shownFault(f))
			}
			var may []string
			for _, text := range every {
				f := tries(c, o, s, text)
				if f.E == api.OK {
					may = append(may, text)
				}
				if got := read(s + text); got != f && !(f.E == api.OK && isOpenEnd(got, s+text)) {
					t.Fatalf("%s: %s, want %s", shown(s+text), shownFault(got), shownFault(f))
				}
			}
			if len(may) == 0 {
				break
			}
			// Of two, the one that was met less.
			text := oneOf(g, may...)
			if other := oneOf(g, may...); met[other] < met[text] {
				text = other
			}
			met[text]++
			x := tokenAt(text, len(s))
			c.next(x)
			o = o.after(x)
			s += text + " "
		}
	}
	for _, text := range every[:len(every)-1] {
		if met[text] == 0 {
			t.Errorf("%s was never met", text)
		}
	}
}

// chartBehind is where the grammar is behind a beginning.
func chartBehind(g *grammar, start, begin string) (*chart, opened) {
	c := newChart(g, start)
	var o opened
	l, _ := token.Read(begin)
	for _, x := range l {
		c.next(x)
		o = o.after(x)
	}
	return c, o
}

// reading is a call of which the fault alone counts.
func reading[T any](read func(string) (T, api.Fault)) func(string) api.Fault {
	return func(s string) api.Fault {
		_, f := read(s)
		return f
	}
}

func isOpenEnd(f api.Fault, s string) bool {
	return f == api.Fault{} || f == api.Fault{E: api.ErrSyntax, At: len(s)}
}

func tokenAt(text string, at int) api.Token {
	l, _ := token.Read(text)
	return api.Token{Kind: l[0].Kind, Text: text, At: at}
}

// tries is the fault of a token behind others, which leaves these as they were.
func tries(c *chart, o opened, s, text string) api.Fault {
	n := len(c.columns)
	f := o.fault(c, tokenAt(text, len(s)))
	if len(c.columns) > n {
		c.back()
	}
	return f
}

// P13.1 to P13.3: the ordinary program with each of its tokens changed to each other one, left out, doubled, and with each put in ahead of it.
func TestEveryChange(t *testing.T) {
	l, _ := token.Read(ordinaryProgram())
	m := newModel()
	c := newChart(m.grammar, "Program")
	var o opened
	s := ""
	for i, x := range l {
		behind, after := textsOf(l[i:]), textsOf(l[i+1:])
		for _, text := range everyToken() {
			for _, rest := range []string{" " + behind, " " + after} {
				want := tries(c, o, s, text)
				got := reading(parse.Parse)(s + text + rest)
				if want.E != api.OK && got != want {
					t.Errorf("%s: %s, want %s", shown(s+text+rest), shownFault(got), shownFault(want))
				}
				// What is right here is followed by the rest, which may be wrong: that takes long.
				if want.E == api.OK && (i%16 == 0 || got.E == api.OK) {
					m.check(t, s+text+rest)
				}
			}
		}
		m.check(t, s+after)
		m.check(t, s+x.Text+" "+behind)
		c.next(api.Token{Kind: x.Kind, Text: x.Text, At: len(s)})
		o = o.after(x)
		s += x.Text + " "
	}
}

func textsOf(l []api.Token) string {
	var out []string
	for _, x := range l {
		out = append(out, x.Text)
	}
	return strings.Join(out, " ")
}

// P13.1 to P13.3: programs of all sorts with a token changed, left out, doubled, put in, or swapped with another one.
func TestAnyChange(t *testing.T) {
	g := rand.New(rand.NewPCG(13, 6))
	m := newModel()
	a := newAny(g, m.grammar)
	every := everyToken()
	met := map[api.Errno]int{}
	for i := range 4000 {
		word, check := "Program", m.check
		if i%4 == 3 {
			word, check = "Sum", m.checkExpr
		}
		texts := a.texts(word, 7+g.IntN(5))
		if len(texts) == 0 || len(texts) > 150 {
			continue
		}
		for range 1 + g.IntN(2) {
			at := g.IntN(len(texts))
			switch g.IntN(6) {
			case 0:
				texts = slices.Delete(texts, at, at+1)
			case 1:
				texts = slices.Insert(texts, at, texts[at])
			case 2:
				texts = slices.Insert(texts, at, oneOf(g, every...))
			case 3:
				other := g.IntN(len(texts))
				texts[at], texts[other] = texts[other], texts[at]
			default:
				texts[at] = oneOf(g, every...)
			}
			if len(texts) == 0 {
				texts = []string{"a"}
			}
		}
		met[check(t, joined(g, texts)).E]++
	}
	if met[api.OK] < 100 || met[api.ErrSyntax] < 1000 || met[api.ErrLong] < 10 {
		t.Errorf("met %v", met)
	}
}

// P13.1, P13.3: tokens in any order.
func TestAnyTokens(t *testing.T) {
	g := rand.New(rand.NewPCG(13, 7))
	m := newModel()
	every := everyToken()
	for range 20000 {
		var texts []string
		for range 1 + g.IntN(8) {
			texts = append(texts, oneOf(g, every...))
		}
		s := joined(g, texts)
		before := oneOf(g, "", "model {", "data { int", "data { ", "generated quantities { ", "model { if (a", "model { a", "model { (a)", "model { for (i in ", "model { if (a < b) { }", "parameters { real<", "data { } transformed ", "model { } ")
		m.check(t, before+" "+s)
		m.checkExpr(t, s)
	}
}

// P13.1, P13.3: all sums of up to six of some tokens, and all that is none.
func TestAllShortSums(t *testing.T) {
	all(t, "Sum", "", reading(parse.Expr), []string{"a", "1", "-", "+", "*", "(", ")", "[", "]", ",", "=="}, 6)
}

// The same of statements, and of declarations.
func TestAllShortStatements(t *testing.T) {
	all(t, "Program", "model { ", reading(parse.Parse), []string{"a", "1", "=", "~", "(", ")", "[", "]", ";", "{", "}", "-", "*"}, 6)
	all(t, "Program", "model { if (a < b) { } ", reading(parse.Parse), []string{"else", "{", "}", "if", ";", "a", "data", "generated"}, 6)
}

func TestAllShortDeclarations(t *testing.T) {
	tokens := []string{"int", "vector", "array", "a", "=", "<", "lower", "upper", ",", ">", "[", "1", "]", ";", "}"}
	all(t, "Program", "data { ", reading(parse.Parse), tokens, 7)
	all(t, "Program", "transformed data { ", reading(parse.Parse), tokens, 7)
	all(t, "Program", "", reading(parse.Parse), []string{"data", "transformed", "parameters", "model", "generated", "quantities", "{", "}"}, 9)
}

// all goes through all rows of tokens that some tokens can be followed by, and one more that can't be there.
func all(t *testing.T, start, begin string, read func(string) api.Fault, every []string, length int) {
	t.Helper()
	c, o := chartBehind(newModel().grammar, start, begin)
	n := 0
	var walk func(s string, o opened, left int)
	walk = func(s string, o opened, left int) {
		n++
		if f := read(s); f.E != api.OK != (c.whole() == nil) {
			t.Errorf("%s: %s", shown(s), shownFault(f))
		}
		for _, text := range every {
			want := tries(c, o, s, text)
			if got := read(s + text); got != want && !(want.E == api.OK && isOpenEnd(got, s+text)) {
				t.Errorf("%s: %s, want %s", shown(s+text), shownFault(got), shownFault(want))
			}
			if want.E != api.OK || left == 0 || t.Failed() {
				continue
			}
			x := tokenAt(text, len(s))
			c.next(x)
			walk(s+text+" ", o.after(x), left-1)
			c.back()
		}
	}
	walk(begin, o, length-1)
	if n < 50 {
		t.Errorf("%s: %d rows of tokens", begin, n)
	}
}

// P13.2: valid trees, made without the grammar: what layer 12 writes is read as the same tree.
func TestAnyTree(t *testing.T) {
	g := rand.New(rand.NewPCG(13, 8))
	read := 0
	for range 3000 {
		p := anyProg(g)
		s, err := tree.Write(p)
		if err != api.OK {
			t.Fatal("a tree is not valid")
		}
		if len(s) > 20000 {
			continue
		}
		q, f := parse.Parse(s)
		if f != (api.Fault{}) || !tree.Same(p, q) {
			t.Errorf("%s is read as %s, %s", shown(s), shown(toldProg(q)), shownFault(f))
		}
		parseCall().writtenAgain(t, s, q)
		read++
	}
	for range 20000 {
		e := anyExpr(g, g.IntN(8))
		s, err := tree.WriteExpr(e)
		if err != api.OK {
			t.Fatal("a tree is not valid")
		}
		x, f := parse.Expr(s)
		if f != (api.Fault{}) || !tree.SameExpr(e, x) {
			t.Errorf("%s is read as %s, %s", shown(s), shown(toldExpr(x)), shownFault(f))
		}
	}
	if read < 2900 {
		t.Errorf("%d programs were read", read)
	}
}

// P13.2: trees that are too deep, or have numbers that are too long, to be read again.
func TestTreesBeyondLimits(t *testing.T) {
	number := api.Expr{Op: api.ExNum, Name: strings.Repeat("1", mostNumeral+1)}
	s, _ := tree.WriteExpr(number)
	failsExpr(t, api.ErrLong, "^"+s)
	e := api.Expr{Op: api.ExName, Name: "a"}
	for i := range mostDepth + 2 {
		s, _ := tree.WriteExpr(e)
		x, f := parse.Expr(s)
		if want := (api.Fault{E: api.ErrDepth, At: 2 * mostDepth}); i > mostDepth && (f != want || !isZero(x)) || i <= mostDepth && (f != (api.Fault{}) || !tree.SameExpr(x, e)) {
			t.Errorf("%d signs: %s", i, shownFault(f))
		}
		e = api.Expr{Op: api.ExNeg, Kids: []api.Expr{e}}
	}
	// A tree may be deeper than what is open: sums have no brackets in their first kids.
	e = api.Expr{Op: api.ExName, Name: "a"}
	for range 2000 {
		e = api.Expr{Op: api.ExAdd, Kids: []api.Expr{e, {Op: api.ExName, Name: "b"}}}
	}
	s, _ = tree.WriteExpr(e)
	if x, f := parse.Expr(s); f != (api.Fault{}) || !tree.SameExpr(x, e) {
		t.Errorf("a long sum: %s", shownFault(f))
	}
}
