package chart_test

import (
	"strconv"
	"strings"
	"testing"

	"stepstone/api"
	"stepstone/chart"
	"stepstone/tape"
)

// table has the chapter's rows, a step a line, in the order in which they are made; u, L and U are what Put is handed.
func table(hasLower, hasUpper bool) (lines []string, x, j string) {
	switch {
	case !hasLower && !hasUpper:
		return []string{"zero = num 0"}, "u", "zero"
	case !hasUpper:
		return []string{"power = exp u", "x = add L power"}, "x", "u"
	case !hasLower:
		return []string{"power = exp u", "x = sub U power"}, "x", "u"
	}
	return []string{
		"w = sub U L",
		"one = num 1",
		"minus = neg u",
		"power = exp minus",
		"d = add one power",
		"s = div one d",
		"product = mul w s",
		"x = add L product",
		"logw = log w",
		"rest = sub logw u",
		"logd = log d",
		"two = num 2",
		"twice = mul two logd",
		"j = sub rest twice",
	}, "x", "j"
}

func opOf(name string) uint8 {
	switch name {
	case "add":
		return api.NdAdd
	case "sub":
		return api.NdSub
	case "mul":
		return api.NdMul
	case "div":
		return api.NdDiv
	case "neg":
		return api.NdNeg
	case "exp":
		return api.NdExp
	case "log":
		return api.NdLog
	}
	panic(name + " is no Op")
}

// line makes the step that a line tells of, and gives it its name.
func line(m *tape.Maker, text string, at map[string]int) api.Errno {
	words := strings.Fields(text)
	var i int
	var e api.Errno
	switch {
	case words[2] == "num":
		n, _ := strconv.Atoi(words[3])
		i, e = m.Num(ratio(int64(n), 1))
	case len(words) == 4:
		i, e = m.One(opOf(words[2]), at[words[3]])
	default:
		i, e = m.Two(opOf(words[2]), at[words[3]], at[words[4]])
	}
	at[words[0]] = i
	return e
}

// byHand makes a chart by a plain row of calls. It needs a maker.
func byHand(m *tape.Maker, u, lower, upper int) (x, j int, e api.Errno) {
	if u < 0 || u >= m.Len() || lower < none || upper < none {
		return 0, 0, api.ErrArg
	}
	at := map[string]int{"u": u, "L": lower, "U": upper}
	lines, nameX, nameJ := table(lower != none, upper != none)
	for _, text := range lines {
		if e := line(m, text, at); e != api.OK {
			return 0, 0, e
		}
	}
	return at[nameX], at[nameJ], api.OK
}

// pair are two makers to which the same is done, but that charts are put into the one, and made by hand in the other.
type pair struct {
	t          *testing.T
	put, plain *tape.Maker
}

func newPair(t *testing.T, budget int) pair {
	t.Helper()
	return pair{t, newMaker(t, budget), newMaker(t, budget)}
}

// agree checks that a call did the same to both.
func (p pair) agree(what string, call func(m *tape.Maker) (int, api.Errno)) int {
	p.t.Helper()
	i, e := call(p.put)
	if k, f := call(p.plain); i != k || e != f || p.put.Len() != p.plain.Len() {
		p.t.Fatalf("%s = %d, error %d, but %d, error %d where charts are made by hand: %s", what, i, e, k, f, shownTape(madeBy(p.plain)))
	}
	return i
}

func (p pair) par() int {
	p.t.Helper()
	return p.agree("Par", func(m *tape.Maker) (int, api.Errno) { return m.Par() })
}

func (p pair) num(n, d int64) int {
	p.t.Helper()
	return p.agree("Num", func(m *tape.Maker) (int, api.Errno) { return m.Num(ratio(n, d)) })
}

func (p pair) one(op uint8, a int) int {
	p.t.Helper()
	return p.agree("One", func(m *tape.Maker) (int, api.Errno) { return m.One(op, a) })
}

func (p pair) two(op uint8, a, b int) int {
	p.t.Helper()
	return p.agree("Two", func(m *tape.Maker) (int, api.Errno) { return m.Two(op, a, b) })
}

// chart puts one, twice, and holds what was returned and what was made against what is made by hand.
func (p pair) chart(u, lower, upper int) (x, j int, e api.Errno) {
	p.t.Helper()
	for range 2 {
		before := shownTape(madeBy(p.put))
		x, j, e = chart.Put(p.put, u, lower, upper)
		wantX, wantJ, want := byHand(p.plain, u, lower, upper)
		if x != wantX || j != wantJ || e != want {
			p.t.Fatalf("Put %s of %s = %s, want %s", shownCall(u, lower, upper), before, shownAnswer(x, j, e), shownAnswer(wantX, wantJ, want))
		}
		if p.put.Len() != p.plain.Len() || p.put.Len() > 0 && !tape.Same(madeBy(p.put), madeBy(p.plain)) {
			p.t.Fatalf("Put %s of %s made %s, want %s", shownCall(u, lower, upper), before, shownTape(madeBy(p.put)), shownTape(madeBy(p.plain)))
		}
	}
	return x, j, e
}
