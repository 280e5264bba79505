package parse_test

import (
	"strings"
	"testing"

	"stepstone/api"
	"stepstone/parse"
	"stepstone/tree"
)

// ordinary is a program with every block, and every kind of declaration, statement, expression and comparison.
const ordinary = `// what is given
data {
  int<lower = 1> n;
  vector[n] y;   // observed
  array[n + 1] int<lower = 0, upper = 9> k;
  array[2] real<upper = 1e3> w;
  real r;
}
transformed data {
  int m = n * 2 - 1;
  vector<lower = 0>[m] z;
  for (i in 1 : m) { z[i] = y[i] / (i + 1); }
}
parameters { real mu; real<lower = 0> sigma; vector<lower = -1, upper = 1>[3] b; }
transformed parameters {
  real t = exp(mu) + f(), u;
  t = t * -sigma;
}
model {
  mu ~ normal(0, 10.5);
  sigma ~ exponential(1);
  y[1] - t ~ normal(-mu, sigma * 2);
  x ~ flat();
  target += -(mu - 1) * 2;
  if (n == 1) { target += 1; } else { if (n != 2) { } }
  if (n < m) { { } } else { { n = 1; } }
  if (n <= m + 1) { for (j in -1 : n * 2) { if (j > 1) { b[j] = 0; } } }
  if (n >= 1) { }
}
generated quantities {
  array[3] real g;
  real h = - - mu;
  g[1] = b[1] * (b[2] * b[3]) - (h - (1 - h));
}
`

// ordinaryProgram is the one without its fault: declarations have one name each.
func ordinaryProgram() string { return strings.Replace(ordinary, "f(), u;", "f();", 1) }

// P13.1: all of the grammar in one program, as the tree that is written down beside it.
func TestOrdinary(t *testing.T) {
	p, f := parse.Parse(ordinaryProgram())
	if f != (api.Fault{}) {
		t.Fatal(shownFault(f))
	}
	want := strings.Join([]string{
		"data {", "int < lower = 1 > n ;", "vector [ n ] y ;", "array [ n + 1 ] int < lower = 0 , upper = 9 > k ;", "array [ 2 ] real < upper = 1e3 > w ;", "real r ;", "}",
		"transformed data {", "int m = n * 2 - 1 ;", "vector < lower = 0 > [ m ] z ;", "for ( i in 1 : m ) {", "z [ i ] = y [ i ] / ( i + 1 ) ;", "}", "}",
		"parameters {", "real mu ;", "real < lower = 0 > sigma ;", "vector < lower = - 1 , upper = 1 > [ 3 ] b ;", "}",
		"transformed parameters {", "real t = exp ( mu ) + f ( ) ;", "t = t * - sigma ;", "}",
		"model {", "mu ~ normal ( 0 , 10.5 ) ;", "sigma ~ exponential ( 1 ) ;", "y [ 1 ] - t ~ normal ( - mu , sigma * 2 ) ;", "x ~ flat ( ) ;", "target += - ( mu - 1 ) * 2 ;",
		"if ( n == 1 ) {", "target += 1 ;", "}", "else {", "if ( n != 2 ) {", "}", "}",
		"if ( n < m ) {", "{", "}", "}", "else {", "{", "n = 1 ;", "}", "}",
		"if ( n <= m + 1 ) {", "for ( j in - 1 : n * 2 ) {", "if ( j > 1 ) {", "b [ j ] = 0 ;", "}", "}", "}",
		"if ( n >= 1 ) {", "}", "}",
		"generated quantities {", "array [ 3 ] real g ;", "real h = - - mu ;", "g [ 1 ] = b [ 1 ] * ( b [ 2 ] * b [ 3 ] ) - ( h - ( 1 - h ) ) ;", "}", "",
	}, "\n")
	if s, err := tree.Write(p); s != want || err != api.OK {
		t.Errorf("it is read as %s, error %d", s, err)
	}
	q, f := parse.Parse(want)
	if f != (api.Fault{}) || !tree.Same(p, q) || isSame(p, q) {
		t.Errorf("what is written is read as %s, %s", toldProg(q), shownFault(f))
	}
	at := strings.Index(ordinary, ", u;")
	if _, f := parse.Parse(ordinary); f != (api.Fault{E: api.ErrSyntax, At: at}) {
		t.Errorf("two names: %s, want one at %d", shownFault(f), at)
	}
}

// The chapter's examples.
func TestExamples(t *testing.T) {
	reads(t, "model { target += -(a - 1) * 2 ; }", "4: | term@8  mul@18{neg@18{sub@19{a@20, 1@24}}, 2@29}")
	if e, f := parse.Expr("-(a - 1) * 2"); f != (api.Fault{}) {
		t.Error(shownFault(f))
	} else if s, err := tree.WriteExpr(e); s != "- ( a - 1 ) * 2" || err != api.OK {
		t.Errorf("it is written as %s, error %d", s, err)
	}
	refuses(t, "model { } ^data { }", "model { (a) ^= 1; }")
	reads(t, "", "")
}

// P13.1: nothing is a program without blocks, and no sum.
func TestNothing(t *testing.T) {
	for _, s := range []string{"", " ", "\n", "\t\r\n ", "// nothing", "// nothing\n", "//\n//\n \n// model { }", "  // x\r"} {
		reads(t, s, "")
		failsExpr(t, api.ErrSyntax, s+"^")
	}
}

// titles are the blocks'.
func titles() []string {
	return []string{"data", "transformed data", "parameters", "transformed parameters", "model", "generated quantities"}
}

// P13.1: each block alone, with what may be in it, and what may not.
func TestEachBlock(t *testing.T) {
	for i, title := range titles() {
		at := string(rune('0' + i))
		reads(t, title+" { }", at+": |")
		reads(t, title+"{}", at+": |")
		reads(t, "\n"+strings.ReplaceAll(title, " ", " // x\n")+"// y\n{ // z\n}", at+": |")
		if i == api.BkModel {
			refuses(t, title+" { ^int n; }", title+" { ^real x; }", title+" { ^vector[2] n; }", title+" { ^array[2] int n; }", title+" { { } ^real x; }")
		} else {
			n := len(title)
			reads(t, title+" { int n; real x; }", at+": "+mark("int", n+3)+" n; "+mark("real", n+10)+" x |")
			refuses(t, title+" { int n ^}", title+" { int n; ^, real x; }", title+" { ^; }")
		}
		if i == api.BkData || i == api.BkPars {
			refuses(t, title+" { ^n = 1; }", title+" { int n; ^n = 1; }", title+" { ^target += 1; }", title+" { ^x ~ f(); }", title+" { ^for (i in 1:2) { } }", title+" { ^if (1 < 2) { } }", title+" { ^{ } }", title+" { ^- 1 ~ f(); }", title+" { ^(x) ~ f(); }", title+" { ^1 ~ f(); }")
			refuses(t, title+" { int n ^= 1; }", title+" { real n ^= 1; }", title+" { vector[2] n ^= y; }", title+" { array[2] int n ^= 1; }", title+" { real<lower = 0> n; real m ^= n; }")
		} else {
			n := len(title)
			reads(t, title+" { n = 1; { } }", at+": | "+mark("set", n+3)+" n "+mark("1", n+7)+"; "+mark("block", n+10)+" {}")
			refuses(t, title+" { n = 1; ^int m; }", title+" { { ^int m; } }", title+" { for (i in 1:2) { ^real m; } }")
		}
		refuses(t, title+"^", title+" ^;", title+" ^( )", title+" ^}", title+" ^[ ]", title+" ^x { }", title+" ^model { }", title+" ^1 { }", title+" {^", title+" { ^)", title+" { ^]", title+" { ^data { }", title+" { } ^}", title+" { } ^;", title+" { } ^{", title+" { } ^x", title+" { } ^1", title+" { } ^int n;")
	}
	refuses(t, "^x", "^1", "^{ }", "^;", "^int n;", "^x = 1;", "^target += 1;", "^Data { }", "^datas { }", "^quantities { }", "^in", "^for", "^lower", "^upper", "^else { }", "^if (1 < 2) { }")
}

// P13.1: blocks that follow each other, in the right order alone. (Some of which the first word is right: there the second one is wrong.)
func TestTwoBlocks(t *testing.T) {
	for i, a := range titles() {
		for j, b := range titles() {
			s := a + " { } " + b + " { }"
			switch {
			case i < j:
				reads(t, s, string(rune('0'+i))+": | || "+string(rune('0'+j))+": |")
			case j == api.BkMade && i < api.BkTurned:
				refuses(t, a+" { } transformed ^data { }")
			default:
				refuses(t, a+" { } ^"+b+" { }")
			}
		}
	}
}

// P13.1: all sets of blocks, and all orders of three.
func TestSomeBlocks(t *testing.T) {
	for set := range 1 << 6 {
		var s, want []string
		for i, title := range titles() {
			if set>>i&1 == 1 {
				s, want = append(s, title+"{}"), append(want, string(rune('0'+i))+": |")
			}
		}
		reads(t, strings.Join(s, "\n"), strings.Join(want, " || "))
	}
	m := newModel()
	n := 0
	for _, a := range titles() {
		for _, b := range titles() {
			for _, c := range titles() {
				if f := m.check(t, a+" { } "+b+" { } "+c+" { }"); f.E == api.OK {
					n++
				}
			}
		}
	}
	if n != 20 {
		t.Errorf("%d orders of three blocks are programs, want 20", n)
	}
}

// P13.1: titles of two words, of which the second one is wrong, or not there.
func TestHalfTitles(t *testing.T) {
	refuses(t, "transformed^", "transformed ^{ }", "transformed ^model { }", "transformed ^transformed", "transformed ^quantities { }", "transformed ^x { }", "transformed ^; data { }", "transformed ^1", "transformed // data\n^", "transformed ^generated",
		"generated^", "generated ^{ }", "generated ^data { }", "generated ^parameters { }", "generated ^generated", "generated ^x { }", "generated ^quantity { }", "generated ^, quantities { }",
		"data { } transformed^", "data { } transformed ^{ }", "parameters { } transformed^", "parameters { } transformed ^model", "parameters { } transformed ^data", "transformed data { } transformed ^data { }", "transformed data { } transformed^", "transformed parameters { } ^transformed", "model { } ^transformed", "model { } generated^", "generated quantities { } ^generated", "generated quantities { } ^transformed", "generated quantities { } ^quantities",
		"data ^data { }", "^transformeddata { }", "^transformed_data { }", "transformed ^Data { }", "^Transformed data { }", "data { } ^quantities { }", "^generatedquantities { }")
}
