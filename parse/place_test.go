package parse_test

import (
	"math/rand/v2"
	"strconv"
	"strings"
	"testing"

	"stepstone/api"
	"stepstone/parse"
	"stepstone/token"
)

// P13.1: the places of declarations are those of their types, whatever is behind these.
func TestPlacesOfDeclarations(t *testing.T) {
	reads(t, "data{int n;real x;vector[3]y;array[4]int k;array[n]real z;}",
		"0: int@5 n; real@11 x; vector@18 y size 3@25; ints@29 k size 4@35; reals@43 z size n@49 |")
	reads(t, "data {\n  int < lower = 0 > n ; // x\n\n\treal<lower=-1,upper=(n)> // y\n x;\r\n}",
		"0: int@9 n lower 0@23; real@38 x lower neg@49{1@50} upper n@58 |")
	reads(t, "generated quantities { vector<upper = n + 1> [ (m) ] y = (a) * 2; }",
		"5: vector@23 y size m@47 upper add@38{n@38, 1@42} init mul@57{a@57, 2@63} |")
	reads(t, "transformed data {array // int\n [2]\n int<lower = f(1)> n;}", "1: ints@18 n size 2@33 lower f@49(1@51) |")
}

// P13.1: the places of statements are those of their first tokens.
func TestPlacesOfStatements(t *testing.T) {
	reads(t, "model {\n  a = 1;\n  b[2] = c;\n}", "4: | set@10 a 1@14; set@19 b 2@21, c@26")
	reads(t, "model { target // x\n += a; target += 1; }", "4: | term@8  a@24; term@27  1@37")
	reads(t, "model { (a + b) ~ f(c); a + b ~ f(); (a) ~ f(); -a ~ f(); 1 ~ f(); a[1] * 2 ~ f(); f(1) ~ f(); }",
		"4: | dist@8 f add@8{a@9, b@13}, c@20; dist@24 f add@24{a@24, b@28}; dist@37 f a@37; dist@48 f neg@48{a@49}; dist@58 f 1@58; dist@67 f mul@67{a@67[1@69], 2@74}; dist@83 f f@83(1@85)")
	reads(t, "model { for ( i in a : (b) ) { { } } }", "4: | for@8 i a@19, b@23 {block@31 {}}")
	reads(t, "model { if (a<b) { x = 1; } else { y = 2; } { } }", "4: | if@8  lt@12{a@12, b@14} {set@19 x 1@23} else {set@35 y 2@39}; block@44 {}")
	reads(t, "model{{{}}}", "4: | block@6 {block@7 {}}")
	reads(t, "// 1\nmodel\n{ // 2\n\n{ // 3\n}\n// 4\n}", "4: | block@19 {}")
}

// P13.1: the places of expressions are those of their first tokens, which may be brackets.
func TestPlacesOfExpressions(t *testing.T) {
	readsExpr(t, " a", "a@1")
	readsExpr(t, "\n\n 1 // x\n", "1@3")
	readsExpr(t, "( a )", "a@0")
	readsExpr(t, " ( ( a ) )", "a@1")
	readsExpr(t, "a + b", "add@0{a@0, b@4}")
	readsExpr(t, "( a + b )", "add@0{a@2, b@6}")
	readsExpr(t, "( a ) + b", "add@0{a@0, b@8}")
	readsExpr(t, " ( ( a ) + b )", "add@1{a@3, b@11}")
	readsExpr(t, "( a + b ) * c", "mul@0{add@0{a@2, b@6}, c@12}")
	readsExpr(t, "(a+b)+(c+d)", "add@0{add@0{a@1, b@3}, add@6{c@7, d@9}}")
	readsExpr(t, " a - b - c", "sub@1{sub@1{a@1, b@5}, c@9}")
	readsExpr(t, " a / b * c", "mul@1{div@1{a@1, b@5}, c@9}")
	readsExpr(t, "a + // x\n b * c", "add@0{a@0, mul@10{b@10, c@14}}")
	readsExpr(t, " - a", "neg@1{a@3}")
	readsExpr(t, " - a + b", "add@1{neg@1{a@3}, b@7}")
	readsExpr(t, " - ( a + b )", "neg@1{add@3{a@5, b@9}}")
	readsExpr(t, "( - a ) * b", "mul@0{neg@0{a@4}, b@10}")
	readsExpr(t, "a * - b", "mul@0{a@0, neg@4{b@6}}")
	readsExpr(t, " y [ i ]", "y@1[i@5]")
	readsExpr(t, "y // x\n [ ( i ) ] + 1", "add@0{y@0[i@10], 1@20}")
	readsExpr(t, " f ( )", "f@1()")
	readsExpr(t, " f ( a , ( b ) , - c )", "f@1(a@5, b@9, neg@17{c@19})")
	readsExpr(t, "( f ( 1 ) )", "f@0(1@6)")
	readsExpr(t, "( y [ 1 ] )", "y@0[1@6]")
}

// P13.1: a comparison's place is that of its first token.
func TestPlacesOfComparisons(t *testing.T) {
	reads(t, "model { if ( a < b ) { } }", "4: | if@8  lt@13{a@13, b@17} {}")
	reads(t, "model { if((a)==(b)) { } }", "4: | if@8  eq@11{a@11, b@16} {}")
	reads(t, "model { if( // x\n a + b >= -c) { } }", "4: | if@8  ge@18{add@18{a@18, b@22}, neg@27{c@28}} {}")
	reads(t, "model { if((a+b)*c != y[1]) { } }", "4: | if@8  ne@11{mul@11{add@11{a@12, b@14}, c@17}, y@22[1@24]} {}")
	reads(t, "model { if(-a>1) { } }", "4: | if@8  gt@11{neg@11{a@12}, 1@14} {}")
	reads(t, "model { if(f()<=1) { } }", "4: | if@8  le@11{f@11(), 1@16} {}")
}

// told is a tree's line, in which each place is the number of the token that is there.
func told(t *testing.T, s string) string {
	t.Helper()
	p, f := parse.Parse(s)
	l, _ := token.Read(s)
	if f != (api.Fault{}) {
		return shownFault(api.Fault{E: f.E, At: numberOf(l, f.At)})
	}
	var out strings.Builder
	for i, piece := range strings.Split(toldProg(p), "@") {
		if i > 0 {
			digits := len(piece) - len(strings.TrimLeft(piece, "0123456789"))
			at, _ := strconv.Atoi(piece[:digits])
			piece = "@" + strconv.Itoa(numberOf(l, at)) + piece[digits:]
		}
		out.WriteString(piece)
	}
	return out.String()
}

// numberOf is which token is at a place: how many there are, if none is.
func numberOf(l []api.Token, at int) int {
	for i, x := range l {
		if x.At == at {
			return i
		}
	}
	return len(l)
}

// P13.1: blanks, line feeds and comments between tokens change nothing but places.
func TestGaps(t *testing.T) {
	g := rand.New(rand.NewPCG(13, 1))
	gaps := []string{" ", "\n", "\t", "\r\n", "  ", " // x\n", "\n// } ; data {\n\n", " //\n"}
	for _, s := range []string{ordinaryProgram(), ordinary, "model { (a) = 1; }", "model { } data { }", "data { int n; }", "model { target += -(a - 1) * 2; } x"} {
		l, _ := token.Read(s)
		want := told(t, s)
		for range 30 {
			var out strings.Builder
			for _, x := range l {
				out.WriteString(gaps[g.IntN(len(gaps))] + x.Text)
			}
			spaced := out.String() + gaps[g.IntN(len(gaps))]
			if got := told(t, spaced); got != want {
				t.Errorf("%s is read as %s, want %s", shown(spaced), shown(got), shown(want))
			}
		}
	}
}
