package dist_test

import (
	"slices"
	"strconv"
	"strings"
	"testing"

	"stepstone/api"
	"stepstone/tape"
)

// words are the chapter's own for a term.
func words(name string, k int64) string {
	text := map[string]string{
		"normal":            "z: (x - a) / b; the Neg of (z * z) / 2; minus Log b",
		"lognormal":         "l: Log x; z: (l - a) / b; the Neg of (z * z) / 2; minus Log b; minus l",
		"cauchy":            "z: (x - a) / b; the Neg of Log (1 + z * z); minus Log b",
		"exponential":       "the Need of x; plus (Log a - a * x)",
		"gamma":             "the Need of a; plus a * Log b; plus (a - 1) * Log x; minus b * x",
		"beta":              "the Need of a; plus the Need of b; plus (a - 1) * Log x; plus (b - 1) * Log (1 - x)",
		"uniform":           "the Need of (x - a); plus the Need of (b - x); minus Log (b - a)",
		"bernoulli 1":       "Log a, plus the Need of (1 - a)",
		"bernoulli 0":       "Log (1 - a), plus the Need of a",
		"bernoulli_logit 1": "the Neg of Log (1 + Exp (Neg a))",
		"bernoulli_logit 0": "the Neg of Log (1 + Exp a)",
		"poisson":           "k * Log a, minus a",
		"poisson_log":       "k * a, minus Exp a",
	}
	of := func(name string, is bool) string {
		if is && text[name] != "" {
			return text[name]
		}
		return "the Need of 0"
	}
	switch {
	case slices.Contains(termNames(), name):
		return of(name, true)
	case strings.HasPrefix(name, "poisson"):
		return of(name, k >= 0)
	}
	return of(name+" "+strconv.FormatInt(k, 10), true)
}

// reader makes the steps of a part while it reads it, from left to right.
type reader struct {
	m    *tape.Maker
	k    int64
	at   map[string]int
	left []string
}

func (r *reader) next(is ...string) bool {
	if len(r.left) > 0 && slices.Contains(is, r.left[0]) {
		r.left = r.left[1:]
		return true
	}
	return false
}

func (r *reader) take() string {
	s := r.left[0]
	r.left = r.left[1:]
	return s
}

func (r *reader) rows(of func() int, signs ...string) int {
	out := of()
	for {
		s := strings.Join(r.left, " ")
		if !r.next(signs...) {
			return out
		}
		op := map[byte]uint8{'+': api.NdAdd, '-': api.NdSub, '*': api.NdMul, '/': api.NdDiv}[s[0]]
		out = must(r.m.Two(op, out, of()))
	}
}

func (r *reader) sum() int { return r.rows(r.product, "+", "-") }

func (r *reader) product() int { return r.rows(r.factor, "*", "/") }

// factor: what "the Op of" is of goes on to the end of a product, what an Op alone is of does not.
func (r *reader) factor() int {
	long := r.next("the")
	s := r.take()
	if i, is := r.at[s]; is {
		return i
	}
	switch s {
	case "Neg", "Exp", "Log", "Need":
		of := r.factor
		if long && r.next("of") {
			of = r.product
		}
		return must(r.m.One(opOf(strings.ToLower(s)), of()))
	case "(":
		i := r.sum()
		r.next(")")
		return i
	case "k":
		return must(r.m.Num(ratio(r.k, 1)))
	}
	n, err := strconv.ParseInt(s, 10, 64)
	if err != nil {
		panic(s + " is no number")
	}
	return must(r.m.Num(ratio(n, 1)))
}

// byWords needs a call and a maker by which it goes well.
func (c asked) byWords(m *tape.Maker) (last int) {
	r := reader{m: m, k: c.k, at: c.named()}
	for _, text := range strings.Split(strings.ReplaceAll(words(c.name, c.k), ",", ";"), ";") {
		r.left = strings.Fields(strings.NewReplacer("(", " ( ", ")", " ) ", ":", " : ").Replace(text))
		name, op := "", uint8(0)
		switch {
		case r.next("plus"):
			op = api.NdAdd
		case r.next("minus"):
			op = api.NdSub
		case r.left[1] == ":":
			name = r.take()
			r.take()
		}
		i := r.sum()
		if op != 0 {
			i = must(m.Two(op, last, i))
		}
		if last = i; name != "" {
			r.at[name] = i
		}
		if len(r.left) > 0 {
			panic(text + " is not read to its end")
		}
	}
	return last
}

// P21.1, P21.2: the chapter's words, read from left to right, a bracket when it is come to, make the same steps in the same order.
func TestWords(t *testing.T) {
	for _, l := range [][3]int{{parX, parA, parB}, {others, three, half}, {parA, parA, parB}, {parB, parB, parB}} {
		check := func(c asked) {
			p := begun(t, 100)
			i, e := c.call(p.put)
			if want := c.byWords(p.plain); i != want || e != api.OK || !tape.Same(madeBy(p.put), madeBy(p.plain)) {
				t.Errorf("%s = %s, made %s, want %d, %s", c.shown(), shownAnswer(i, e), shownTape(madeBy(p.put)), want, shownTape(madeBy(p.plain)))
			}
		}
		eachTerm(l[0], l[1:], check)
		for _, name := range countNames() {
			for _, k := range farCounts() {
				check(count(name, k, l[1]))
			}
		}
	}
}
