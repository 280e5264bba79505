package tree_test

import (
	"strings"
	"testing"

	"stepstone/api"
	"stepstone/tree"
)

// isName checks what Name says, and that all that need a name take it, or do not.
func isName(t *testing.T, s string, want bool) {
	t.Helper()
	if got := tree.Name(s); got != want {
		t.Errorf("Name(%s) = %v, want %v", shown(s), got, want)
	}
	one := num("1")
	for i, e := range []api.Expr{name(s), index(s, one), call(s), call(s, one, one)} {
		if got := tree.CheckExpr(e) == api.OK; got != want {
			t.Errorf("expression %d, named %s: valid is %v, want %v", i, shown(s), got, want)
		}
	}
	for i, l := range []api.Stmt{set(s, one), set(s, one, one), dist(s, one), loop(s, one, one)} {
		if got := tree.Check(inModel(l)) == api.OK; got != want {
			t.Errorf("statement %d, named %s: valid is %v, want %v", i, shown(s), got, want)
		}
	}
	for _, ty := range types() {
		for _, at := range []int{api.BkData, api.BkGenerated} {
			if got := tree.Check(in(at, decls(plain(ty, s)), nil)) == api.OK; got != want {
				t.Errorf("declaration of type %d in block %d, named %s: valid is %v, want %v", ty, at, shown(s), got, want)
			}
		}
	}
}

// P12.1: ordinary names, the shortest and the longest ones.
func TestName(t *testing.T) {
	for _, s := range []string{"x", "X", "z", "Z", "a1", "a_", "x_1", "x__y", "alpha", "normal", "exp", "size", "e5", "E", "i0", "Data", "MODEL", "For", "iN", "targets", "bernoulli_logit", strings.Repeat("x", 500), "a" + strings.Repeat("_", 500)} {
		isName(t, s, true)
	}
	for c := 'a'; c <= 'z'; c++ {
		isName(t, string(c), true)
		isName(t, strings.ToUpper(string(c)), true)
		isName(t, string(c)+"7", true)
	}
	// What layer 11 reads has up to 20000 bytes.
	isName(t, strings.Repeat("y", 20000), true)
	isName(t, strings.Repeat("y", 20001), false)
}

// P12.1: each word that is none, and it with something more, less or else.
func TestNameTaken(t *testing.T) {
	if len(taken()) != 17 {
		t.Fatal(taken())
	}
	no := map[string]int{}
	for _, s := range taken() {
		no[s] = 1
	}
	for _, s := range taken() {
		isName(t, s, false)
		for _, near := range []string{s + "s", s + "_", s + "0", s + s, "a" + s, "x_" + s, s[1:], s[:len(s)-1], strings.ToUpper(s), strings.ToUpper(s[:1]) + s[1:], s[:len(s)-1] + strings.ToUpper(s[len(s)-1:])} {
			isName(t, near, no[near] == 0)
		}
		for _, beside := range []string{" " + s, s + " ", s + "\n", s + " " + s, s + "//"} {
			isName(t, beside, false)
		}
	}
	isName(t, "transformed data", false)
	isName(t, "transformed parameters", false)
	isName(t, "generated quantities", false)
}

// P12.1: what layer 11 reads as something else, or not at all.
func TestNameWrong(t *testing.T) {
	for _, s := range []string{
		"", " ", "\n", "//", "_", "_a", "__", "1", "1a", "0x", "12", "1.5", "2e3", "+", "-", "==", "{", "(", ";",
		"a b", "ab c d", " a", "a ", "\ta", "a\n", "a\r", "a//", "a //", "a // b", "// b\na", "a;", "a,", ";a", "a+", "-a", "a=", "a[", "a[1]", "a()", "(a)",
		"a.b", "a.", ".a", "a-b", "a#", "#", "a'", "é", "añ", "a\x00", "\x00", "a\xff", "\xffa", "a\u00a0", "Ａ", "a!", "!a",
	} {
		isName(t, s, false)
	}
	for c := range 256 {
		b := string([]byte{byte(c)})
		letter := c >= 'a' && c <= 'z' || c >= 'A' && c <= 'Z'
		if tree.Name(b) != letter {
			t.Errorf("Name of the byte %d is %v", c, !letter)
		}
		if more := letter || c >= '0' && c <= '9' || c == '_'; tree.Name("a"+b) != more {
			t.Errorf("Name of a and the byte %d is %v", c, !more)
		}
	}
}

// isNumeral checks whether an ExNum may have a text.
func isNumeral(t *testing.T, s string, want bool) {
	t.Helper()
	if want {
		writes(t, num(s), s)
		return
	}
	refuses(t, "the numeral "+shown(s), num(s))
}

// P12.1: a numeral is exactly one number of layer 11.
func TestNumeral(t *testing.T) {
	for _, s := range []string{"0", "1", "9", "00", "007", "12", "1.5", "0.25", "1.0", "1e5", "1e0", "1e+5", "1e-5", "1e1234", "1e+9999", "1e-0000", "2.5e3", "2.50e-03", strings.Repeat("7", 400), strings.Repeat("7", 401), strings.Repeat("7", 20000)} {
		isNumeral(t, s, true)
	}
	for _, s := range []string{
		"", " ", "x", "e5", "-1", "+1", "- 1", ".5", "1.", "1..5", "1.5.5", "1e", "1e+", "1e-", "1.5e", "1e5.5", "1E5", "1x", "1_", "0x1",
		"1e12345", "1e+12345", "1e-00000", "1.5e99999",
		" 1", "1 ", "1\n", "\t1", "1//", "1 // a", "//\n1", "1;", "1,", "(1)", "1+1", "1 2", "1 x", "x 1", "1-", "=1", "1=", "1\x00", "١", "1é", strings.Repeat("7", 20001),
	} {
		isNumeral(t, s, false)
	}
}

// P12.1: a name is no numeral, nor the other way round, for all bytes.
func TestNumeralBytes(t *testing.T) {
	for c := range 256 {
		b := string([]byte{byte(c)})
		if digit := c >= '0' && c <= '9'; (tree.CheckExpr(num(b)) == api.OK) != digit || (tree.CheckExpr(num("1"+b)) == api.OK) != digit {
			t.Errorf("the byte %d: a digit is %v", c, digit)
		}
	}
}
