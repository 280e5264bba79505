package parse_test

import (
	"strings"
	"testing"

	"stepstone/api"
	"stepstone/parse"
)

// The chapter's limits.
const (
	mostDepth   = 64
	mostNumeral = 400
)

// P13.1: numbers of as many bytes as may be, and of one more, of each form.
func TestNumeralLength(t *testing.T) {
	zeros := func(n int) string { return strings.Repeat("0", n) }
	for _, form := range []struct{ before, behind string }{{"", ""}, {"", "1"}, {"7", ""}, {"1.", ""}, {"", ".5"}, {"", "e1234"}, {"", ".0e-1234"}, {"0.", "e+1"}} {
		number := func(n int) string { return form.before + zeros(n-len(form.before)-len(form.behind)) + form.behind }
		m := newModel()
		for n := mostNumeral - 3; n < mostNumeral+4; n++ {
			s := number(n)
			if n <= mostNumeral {
				readsExpr(t, s, mark(s, 0))
				readsExpr(t, "f(-"+s+")", "f@0(neg@2{"+mark(s, 3)+"})")
				continue
			}
			for _, x := range []string{"^", " ^", "-^", "a + ^", "1 * ^", "(^", "f(^", "f(1, ^", "y[^", "- - (1 - ^"} {
				failsExpr(t, api.ErrLong, x+s)
				failsExpr(t, api.ErrLong, x+s+" b ;")
			}
			for _, x := range sumsIn() {
				fails(t, api.ErrLong, strings.Replace(x, "^", "^"+s, 1))
				m.check(t, strings.Replace(x, "^", s, 1))
			}
			// Two of them: the first one counts.
			failsExpr(t, api.ErrLong, "^"+s+" + "+s)
			failsExpr(t, api.ErrSyntax, number(mostNumeral)+" ^"+s)
		}
	}
	failsExpr(t, api.ErrLong, "^"+zeros(20000))
	failsExpr(t, api.ErrLong, strings.Repeat("1+", 2999)+"^"+zeros(mostNumeral+1))
	// A name may be longer.
	long := strings.Repeat("x", 20000)
	readsExprAlone(t, long, mark(long, 0))
}

func readsExprAlone(t *testing.T, s, want string) {
	t.Helper()
	if e, f := parse.Expr(s); f != (api.Fault{}) || toldExpr(e) != want {
		t.Errorf("Expr(%s) = %s, %s", shown(s), shown(toldExpr(e)), shownFault(f))
	}
}

// P13.1: a number that is too long where the grammar has none is ErrSyntax, as that comes first.
func TestNumeralInPlace(t *testing.T) {
	long := "^" + strings.Repeat("1", mostNumeral+1)
	refuses(t, long, "data { } "+long, "data "+long, "transformed "+long, "data { "+long+" }", "data { int "+long+"; }", "data { int n "+long+"; }", "data { vector "+long+" }", "data { int< "+long, "data { int<lower "+long, "data { array[1] "+long, "data { int<lower = 1 "+long, "data { array "+long, "data { vector[1 "+long)
	refusesIn(t, "a "+long, "a[1] "+long, "a = 1 "+long, "target "+long, "a ~ "+long, "a ~ f "+long, "a ~ f(1 "+long, "a ~ f() "+long, "for "+long, "for ("+long, "for (i "+long, "for (i in 1 "+long, "for (i in 1:2) "+long, "if "+long, "if (a "+long, "if (a < b) "+long, "if (a < b) { } else "+long)
	refusesExpr(t, "a "+long, "1 "+long, "(a) "+long, "f(1 "+long, "y[1 "+long)
	fails(t, api.ErrLong, "model { if (a < b) { } "+long+" ~ f(); }")
}

// opening are what opens, each of them one more, and how it goes on so that a sum may follow, and is closed.
func opening() []struct{ open, close string } {
	return []struct{ open, close string }{{"(", ")"}, {"-", ""}, {"f(", ")"}, {"y[", "]"}}
}

// P13.1: as many that are open as may be, and one more, of each kind, alone and mixed, in expressions.
func TestDepthOfExpr(t *testing.T) {
	m := newModel()
	for i, a := range opening() {
		for j, b := range opening() {
			var open, closed string
			for n := 1; n <= mostDepth+3; n++ {
				x := a
				if n%2 == 0 {
					x = b
				}
				if n > mostDepth {
					// The bracket is what is too deep, not the name ahead of it.
					at := len(x.open) - 1
					failsExpr(t, api.ErrDepth, open+x.open[:at]+"^"+x.open[at:])
					failsExpr(t, api.ErrDepth, open+x.open[:at]+"^"+x.open[at:]+"1"+x.close+closed)
					failsExpr(t, api.ErrDepth, "a + "+open+x.open[:at]+"^"+x.open[at:]+")")
					break
				}
				open, closed = open+x.open, x.close+closed
				if f := m.checkExpr(t, open+"a"+closed); f != (api.Fault{}) {
					t.Errorf("%d of %d and %d: %s", n, i, j, shownFault(f))
				}
			}
			for _, s := range []string{"1", "a", "a + b * c"} {
				m.checkExpr(t, open+s+closed+" - "+open+s+closed)
			}
			for k, s := range []string{"(1)", "-1", "f()", "y[1]", "a*-1", "a-(1)", "a + f()"} {
				// A sign that is the last one to open has ended before the second kid of an operation.
				want := api.ErrDepth
				if b.open == "-" && k >= 4 {
					want = api.OK
				}
				if f := m.checkExpr(t, open+s+closed); f.E != want {
					t.Errorf("%s in %d and %d: %s", s, i, j, shownFault(f))
				}
				deeper := open[:len(open)-len(b.open)] + s + closed[len(b.close):]
				if f := m.checkExpr(t, deeper); f != (api.Fault{}) {
					t.Errorf("%s: %s", shown(deeper), shownFault(f))
				}
			}
		}
	}
}

// P13.1: what is closed, or has ended, is not open any more.
func TestDepthThatEnds(t *testing.T) {
	m := newModel()
	for _, s := range []string{"(a)", "-a", "f()", "f(1)", "y[1]", "-(a)", "-f(1)", "-y[-1]", "(-a)", "- -1", "((a))", "f(-1, -2, (3))"} {
		for _, op := range []string{" + ", " - ", " * ", " / "} {
			long := strings.Repeat(s+op, 200) + s
			if f := m.checkExpr(t, long[:min(len(long), 19000)]+""); f != (api.Fault{}) && len(long) <= 19000 {
				t.Errorf("%s: %s", shown(long), shownFault(f))
			}
			if f := m.checkExpr(t, "f("+strings.ReplaceAll(long, op, ", ")+")"); f != (api.Fault{}) {
				t.Errorf("%s: %s", shown(long), shownFault(f))
			}
		}
	}
	signs := strings.Repeat("- ", mostDepth)
	readsExprAlone(t, signs+"a", depthOf(mostDepth, 2, "neg", "a"))
	failsExpr(t, api.ErrDepth, signs+"^-a")
	failsExpr(t, api.ErrDepth, signs+"^(a)")
	failsExpr(t, api.ErrDepth, signs+"a^(1)")
	failsExpr(t, api.ErrDepth, signs+"a^[1]")
	failsExpr(t, api.ErrDepth, signs+"a * "+signs+"a^(1)")
	for _, s := range []string{"a * -b", "a - (b)", "a - b", "1 / f(2)", "a - - b"} {
		m.checkExpr(t, signs+s)
		m.checkExpr(t, signs[:len(signs)-2]+s)
		m.checkExpr(t, signs+"a + "+signs+s)
	}
	// A - that is between two kids opens nothing.
	readsExprAlone(t, strings.Repeat("(", mostDepth)+"a-b-c"+strings.Repeat(")", mostDepth), "sub@0{sub@"+"64{a@64, b@66}, c@68}")
	failsExpr(t, api.ErrDepth, strings.Repeat("(", mostDepth)+"a - ^-b"+strings.Repeat(")", mostDepth))
}

// depthOf is a name below so many signs.
func depthOf(n, wide int, kind, name string) string {
	var out strings.Builder
	for i := range n {
		out.WriteString(mark(kind, i*wide) + "{")
	}
	return out.String() + mark(name, n*wide) + strings.Repeat("}", n)
}

// P13.1: the same in programs, where the brackets of blocks and statements count, too.
func TestDepthOfStatements(t *testing.T) {
	m := newModel()
	bodies := []struct{ open, close string }{{"{ ", "} "}, {"for (i in 1:2) { ", "} "}, {"if (a < b) { ", "} "}, {"if (a < b) { } else { ", "} "}, {"if (a < b) { a = 1; } else { { } ", "} "}}
	inner := []string{"", "{ } ", "a = ((1)); ", "a = 1; ", "a ~ f(); ", "target += -1; ", "a[1] = 1; ", "(a) ~ f(); ", "if (-a < b) { } ", "for (i in 1:f()) { } ", "if (a < b) { } else { } ", "for (i in 1:2) { { } } ", "a ~ f(-1, (2)); ", "a[y[1]] = - -1; ", "{ { } } a = 1; "}
	for i, x := range bodies {
		for j, y := range bodies {
			open, closed := "model { ", "}"
			for n := 2; n <= mostDepth; n++ {
				b := x
				if n%2 == 0 {
					b = y
				}
				open, closed = open+b.open, b.close+closed
				if n < mostDepth-1 {
					continue
				}
				some := inner
				if i != j {
					some = inner[:3]
				}
				for _, s := range some {
					f := m.check(t, open+s+closed)
					if f.E != api.OK && f.E != api.ErrDepth {
						t.Errorf("%s at %d: %s", s, n, shownFault(f))
					}
				}
			}
		}
	}
	sixtyThree := "model { " + strings.Repeat("{ ", mostDepth-2)
	fails(t, api.ErrDepth, sixtyThree+"{ ^{ } } }")
	fails(t, api.ErrDepth, sixtyThree+"a ~ f(^(1)); }")
	fails(t, api.ErrDepth, sixtyThree+"if (a < ^-b) { } }")
	fails(t, api.ErrDepth, sixtyThree+"if (a < b) { ^{ } }")
	fails(t, api.ErrDepth, sixtyThree+"if (a < b) { } else { ^{ } }")
	fails(t, api.ErrDepth, sixtyThree+"for (i in ^-1:2) { } }")
	fails(t, api.ErrDepth, sixtyThree+"for (i in 1:y^[2]) { } }")
	fails(t, api.ErrDepth, sixtyThree+"target += -^-1; }")
	fails(t, api.ErrDepth, sixtyThree+"target += -a^[1]; }")
	fails(t, api.ErrDepth, sixtyThree+"target += -a - -f^(1); }")
	fails(t, api.ErrDepth, sixtyThree+"- ^- 1 ~ f(); }")
	fails(t, api.ErrDepth, sixtyThree+"a[^(1)] = 2; }")
	fails(t, api.ErrDepth, sixtyThree+"{ target += ^-1; } }")
	fails(t, api.ErrDepth, sixtyThree+"{ for ^(i in 1:2) { } } }")
	fails(t, api.ErrDepth, sixtyThree+"{ if ^(a < b) { } } }")
	fails(t, api.ErrDepth, sixtyThree+"{ a^[1] = 2; } }")
	fails(t, api.ErrDepth, sixtyThree+"{ a ~ f^(); } }")
	fails(t, api.ErrDepth, sixtyThree+"{ ^(a) ~ f(); } }")
	fails(t, api.ErrDepth, sixtyThree+"{ a = f^(); } }")
}

// P13.1: the same in declarations.
func TestDepthOfDeclarations(t *testing.T) {
	deep := strings.Repeat("(", mostDepth-2)
	closed := strings.ReplaceAll(deep, "(", ")")
	m := newModel()
	for _, title := range titles() {
		if title == "model" {
			continue
		}
		s := title + " { "
		for _, d := range []string{"vector[" + deep + "a" + closed + "] n;", "array[" + deep + "a" + closed + "] int n;", "int<lower = -" + deep + "a" + closed + "> n;", "real<upper = (" + deep + "a" + closed + ")> n;", "vector<lower = " + deep + "-a" + closed + ", upper = 1>[n] m;"} {
			if f := m.check(t, s+d+d+" }"); f != (api.Fault{}) {
				t.Errorf("%s: %s", shown(s+d), shownFault(f))
			}
		}
		fails(t, api.ErrDepth, s+"vector["+deep+"^(a)"+closed+"] n; }")
		fails(t, api.ErrDepth, s+"vector["+deep+"^-a")
		fails(t, api.ErrDepth, s+"array["+deep+"f^(1)")
		fails(t, api.ErrDepth, s+"int<lower = -"+deep+"y^[1]")
		fails(t, api.ErrDepth, s+"int<lower = 1, upper = ("+deep+"^(")
	}
	fails(t, api.ErrDepth, "generated quantities { real n = -"+deep+"^- 1")
}

// P13.1: a token that can't be there is ErrSyntax, also where it is too deep, or too long.
func TestSyntaxFirst(t *testing.T) {
	deep := strings.Repeat("(", mostDepth)
	long := strings.Repeat("1", mostNumeral+1)
	for _, s := range []string{"{", "[", "}", ")", "]", "*", "for", "if", "target", "int"} {
		failsExpr(t, api.ErrSyntax, deep+"^"+s)
	}
	for _, s := range []string{"{", long, "a", "(", "["} {
		failsExpr(t, api.ErrSyntax, deep+"1 ^"+s)
		failsExpr(t, api.ErrSyntax, deep+"a) ^"+s)
	}
	failsExpr(t, api.ErrSyntax, deep+"a ^{")
	failsExpr(t, api.ErrDepth, deep+"a ^[")
	failsExpr(t, api.ErrDepth, deep+"a ^(")
	failsExpr(t, api.ErrDepth, deep+"^(")
	failsExpr(t, api.ErrDepth, deep+"^-")
	failsExpr(t, api.ErrSyntax, deep+"a - ^{")
	failsExpr(t, api.ErrLong, deep+"^"+long)
	failsExpr(t, api.ErrLong, deep+"a - ^"+long+" (")
	failsExpr(t, api.ErrDepth, deep+"^("+long)
	failsExpr(t, api.ErrDepth, deep+"^-"+long)
	failsExpr(t, api.ErrSyntax, deep+"a ^b (")
	// Whichever token is first.
	failsExpr(t, api.ErrLong, "^"+long+deep+"(")
	failsExpr(t, api.ErrSyntax, "1 ^"+deep+"(")
	failsExpr(t, api.ErrLong, "^"+long+" 1")
	blocks := "model { " + strings.Repeat("{ ", mostDepth-1)
	fails(t, api.ErrSyntax, blocks+"^[")
	fails(t, api.ErrSyntax, blocks+"a ~ f ^{ }")
	fails(t, api.ErrSyntax, blocks+"a = 1 ^(2)")
	fails(t, api.ErrDepth, blocks+"^(2)")
	fails(t, api.ErrSyntax, blocks+"for ^{")
	fails(t, api.ErrSyntax, blocks+"if ^[")
	fails(t, api.ErrDepth, blocks+"if ^(")
	fails(t, api.ErrSyntax, "data { int n; ^"+strings.Repeat("{ ", mostDepth))
	fails(t, api.ErrSyntax, "data { ^"+strings.Repeat("(", mostDepth+1))
}

// P13.1: what layer 11 does not read, with its fault, also if there is one of the grammar ahead of it.
func TestTokensFirst(t *testing.T) {
	both := func(s string, e api.Errno, at int) {
		t.Helper()
		want := api.Fault{E: e, At: at}
		if p, f := parse.Parse(s); f != want || !isZero(p) {
			t.Errorf("Parse(%s): %s, want %s", shown(s), shownFault(f), shownFault(want))
		}
		if x, f := parse.Expr(s); f != want || !isZero(x) {
			t.Errorf("Expr(%s): %s, want %s", shown(s), shownFault(f), shownFault(want))
		}
	}
	for _, wrong := range []string{"#", "_", "_x", "1x", "1.", "1.2.3", "1e12345", "!", ".5", "\x00", "\xff", "\"", "é", "$"} {
		for _, before := range []string{"", "a ", "model { ", "model { target += 1; } ", ") ", "model { } data { } ", "1 2 3 ", "; ", strings.Repeat("(", 70), "// x\n", strings.Repeat("1", 401) + " ", "} "} {
			for _, behind := range []string{"", " ", "; }", " )", "\n1x"} {
				both(before+wrong+behind, api.ErrLex, len(before))
			}
		}
	}
	for _, s := range []string{" ", "a", ")", "(", "1", "#", "model { } "} {
		n := 20000/len(s) + 1
		both(strings.Repeat(s, n), api.ErrLong, 0)
	}
	both(strings.Repeat("a ", 6001), api.ErrFull, 12000)
	both(strings.Repeat(")", 6001), api.ErrFull, 6000)
	both(strings.Repeat("(", 6002), api.ErrFull, 6000)
	both("1 "+strings.Repeat("a+", 3000)+"a #", api.ErrFull, 6001)
	both("# "+strings.Repeat("a ", 6001), api.ErrLex, 0)
	failsExpr(t, api.ErrSyntax, "a ^"+strings.Repeat("a ", 5999))
	failsExpr(t, api.ErrDepth, deepest()+"^"+strings.Repeat("(", 6000-mostDepth))
	fails(t, api.ErrSyntax, "model { } ^"+strings.Repeat("}", 5997))
	// As many bytes and tokens as there may be.
	readsExprAlone(t, strings.Repeat(" ", 19999)+"a", "a@19999")
	full := strings.Repeat("a*", 2999) + "a"
	if _, f := parse.Expr(full); f != (api.Fault{}) {
		t.Error(shownFault(f))
	}
	if _, f := parse.Expr(full + "*"); f != (api.Fault{E: api.ErrSyntax, At: 6000}) {
		t.Error(shownFault(f))
	}
	many := "model{" + strings.Repeat("a=1;", 1499) + "}"
	if p, f := parse.Parse(many); f != (api.Fault{}) || len(p.Blocks[api.BkModel].Stmts) != 1499 {
		t.Error(shownFault(f))
	}
	many = "model{" + strings.Repeat("{}", 2998) + "}"
	if p, f := parse.Parse(many); f != (api.Fault{}) || len(p.Blocks[api.BkModel].Stmts) != 2998 {
		t.Error(shownFault(f))
	}
}

func deepest() string { return strings.Repeat("(", mostDepth) }
