package parse_test

import (
	"strings"
	"testing"

	"stepstone/api"
)

// form is how a declaration of a type is written ahead of its bounds, and behind them, and how it is told.
type form struct{ ahead, behind, kind, size string }

func forms() []form {
	return []form{
		{"int", "", "int", ""},
		{"real", "", "real", ""},
		{"vector", "[3]", "vector", " size 3"},
		{"array[3] int", "", "ints", " size 3"},
		{"array[3] real", "", "reals", " size 3"},
	}
}

// withoutPlaces is what is told, less the places.
func withoutPlaces(s string) string {
	var out strings.Builder
	for i, piece := range strings.Split(s, "@") {
		if i > 0 {
			piece = strings.TrimLeft(piece, "0123456789")
		}
		out.WriteString(piece)
	}
	return out.String()
}

// declares checks a declaration in blocks of each kind.
func declares(t *testing.T, s, want string, mayHaveInit bool) {
	t.Helper()
	m := newModel()
	for i, title := range titles() {
		if i == api.BkModel || !mayHaveInit && i != api.BkData && i != api.BkPars || mayHaveInit && (i == api.BkData || i == api.BkPars) {
			continue
		}
		source := title + " { int a; " + s + " " + s + " }"
		if f := m.check(t, source); f != (api.Fault{}) {
			t.Errorf("Parse(%s): %s", shown(source), shownFault(f))
			continue
		}
		p, _ := m.read(source, "Program")
		if got := withoutPlaces(toldDecls(progOf(p).Blocks[i].Decls)); got != "int a; "+want+"; "+want {
			t.Errorf("Parse(%s) declares %s, want %s", shown(source), got, want)
		}
	}
}

// P13.1: each type with each of the bounds, with an initial value, and without.
func TestDeclarations(t *testing.T) {
	bounds := []struct{ s, want string }{
		{"", ""},
		{"<lower = 0>", " lower 0"},
		{"<upper = 1>", " upper 1"},
		{"<lower = 0, upper = 1>", " lower 0 upper 1"},
		{"<lower = a + -1, upper = f(a, (b)) * 2>", " lower add{a, neg{1}} upper mul{f(a, b), 2}"},
	}
	for _, x := range forms() {
		for _, b := range bounds {
			s := x.ahead + b.s + x.behind + " n"
			declares(t, s+";", x.kind+" n"+x.size+b.want, false)
			declares(t, s+";", x.kind+" n"+x.size+b.want, true)
			if strings.HasPrefix(x.ahead, "array") {
				for _, title := range []string{"data", "transformed data", "parameters", "transformed parameters", "generated quantities"} {
					refuses(t, title+" { "+s+" ^= 1; }")
				}
				continue
			}
			declares(t, s+" = 2;", x.kind+" n"+x.size+b.want+" init 2", true)
			declares(t, s+" = (a - b) / c[1];", x.kind+" n"+x.size+b.want+" init div{sub{a, b}, c[1]}", true)
			refuses(t, "data { "+s+" ^= 1; }", "parameters { "+s+" ^= 1; }")
		}
	}
}

// P13.1: bounds that are none: in the wrong order, two of one kind, with something missing.
func TestBounds(t *testing.T) {
	for _, x := range forms() {
		for _, title := range []string{"data { ", "transformed data { real a; ", "parameters { ", "generated quantities { "} {
			s := title + x.ahead
			refuses(t, s+"<upper = 1 ^, lower = 0>"+x.behind+" n; }", s+"<lower = 0, ^lower = 0>"+x.behind+" n; }", s+"<upper = 1 ^, upper = 1>"+x.behind+" n; }", s+"<lower = 0, upper = 1 ^, lower = 0> n; }",
				s+"<^>"+x.behind+" n; }", s+"<^, > n;", s+"<^1> n;", s+"<^x = 1> n;", s+"< ^= 1>", s+"<lower ^0>", s+"<lower = ^> n", s+"<lower = 0, ^> n", s+"<lower = 0 ^; n", s+"<lower = 0 ^upper = 1>", s+"<lower ^== 0>", s+"<lower ^<= 0>", s+"<lower = ^upper = 1>", s+"<lower = 0 ^< n", s+"<lower = 0 ^>= n;", s+"<lower = 0 ^<= 1> n;", s+"<lower = 0 ^== 1> n;", s+"<^Lower = 0>", s+"<^lowers = 0>", s+"<upper^", s+"<^", s+"<lower =^", s+"<lower = 0^", s+"<lower = 0,^", s+"<lower = 0, upper^", s+"<lower = 0, upper = 1^", s+"<lower = 0, upper = 1>^",
				s+" ^> n;", s+" ^<= lower", s+" ^{lower = 0} n;", s+" ^(lower = 0) n;", s+"<lower = 0> ^<upper = 1>", s+"<lower = 0, upper = 1> ^, n;")
		}
	}
}

// P13.1: declarations at whose other places something is wrong.
func TestWrongDeclarations(t *testing.T) {
	for i, title := range titles() {
		if i == api.BkModel {
			continue
		}
		s := title + " { "
		refuses(t,
			s+"int ^; }", s+"int n^", s+"int n ^}", s+"int n ^m; }", s+"int n ^, m; }", s+"int n ^[2]; }", s+"int n ^( ); }", s+"int ^[2] n; }", s+"int ^1; }", s+"int ^(n); }", s+"int ^-n; }", s+"int ^int; }", s+"int ^real n; }", s+"int^", s+"int n ^+= 1; }", s+"int n ^== 1; }", s+"int n ^~ f(); }", s+"int n ^: 1; }",
			s+"real ^[2] n; }", s+"real n ^n; }", s+"real ^;",
			s+"vector ^n; }", s+"vector[^] n; }", s+"vector[2 ^, 3] n; }", s+"vector[2] ^[3] n; }", s+"vector[2] ^<lower = 0> n; }", s+"vector[2] ^; }", s+"vector[2 ^; }", s+"vector ^(2) n; }", s+"vector^", s+"vector[^", s+"vector[2^", s+"vector[2]^", s+"vector[2] n^", s+"vector[2 ^) n;", s+"vector ^]",
			s+"array ^int n; }", s+"array ^n; }", s+"array[2] ^n; }", s+"array[2] ^vector[2] n; }", s+"array[2] ^array[2] int n; }", s+"array[^] int n; }", s+"array[2] int ^[2] n; }", s+"array[2 ^, 2] int n; }", s+"array ^<lower = 0>[2] int n; }", s+"array[2] ^<lower = 0> int n; }", s+"array[2]^", s+"array[2] real^", s+"array^", s+"array ^(2) int", s+"array[2] ^; }", s+"array[2] ^data", s+"array[2] int ^;", s+"array[2] real n ^= 1; }", s+"array[2] int n ^= 1; }",
		)
		for _, word := range taken() {
			refuses(t, s+"int ^"+word+"; }", s+"real<lower = 0> ^"+word+"; }", s+"vector[2] ^"+word+"; }", s+"array[2] int ^"+word+"; }", s+"array[2] real ^"+word+" = 1; }", s+"vector[^"+word+"] n; }", s+"int<lower = ^"+word+"> n; }", s+"int<lower = 0, upper = 1 + ^"+word+"> n; }")
			for _, near := range nextTo(word) {
				if f := newModel().check(t, s+"int "+near+"; real<lower = "+near+"> n; vector["+near+"] m; }"); f != (api.Fault{}) {
					t.Errorf("the name %s in %s: %s", near, title, shownFault(f))
				}
			}
		}
	}
}

// nextTo are names that are nearly a word that is none.
func nextTo(word string) []string {
	return []string{word + "s", word + "_", word + "1", "a" + word, strings.ToUpper(word), word[:len(word)-1] + "x"}
}
