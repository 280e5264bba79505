package kind_test

import (
	"slices"
	"strings"
	"testing"

	"stepstone/api"
)

// suffixes end the names of variables of the types.
var suffixes = [...]string{api.TyInt: "i", api.TyReal: "r", api.TyVec: "v", api.TyInts: "k", api.TyReals: "y"}

// declared are declarations of all types that a block may have, with names that begin with the block's letter.
func declared(block int) string {
	letter := "dmpt-g"[block : block+1]
	out := "real " + letter + "r; vector[2] " + letter + "v; array[2] real " + letter + "y; "
	if block < api.BkPars {
		out += "int " + letter + "i; array[2] int " + letter + "k; "
	}
	return out
}

// everywhere is a program that has variables of all types in all blocks, and a text among the statements of one.
func everywhere(block int, text string) string {
	var out strings.Builder
	for i, title := range titles() {
		out.WriteString(title + " { ")
		if i != api.BkModel {
			out.WriteString(declared(i))
		}
		if i == block {
			out.WriteString(text)
		}
		out.WriteString(" } ")
	}
	return out.String()
}

// stmtBlocks are the blocks that have statements.
func stmtBlocks() []int { return []int{api.BkMade, api.BkTurned, api.BkModel, api.BkGenerated} }

// around are places where a statement may be.
func around() []string {
	return []string{"^", "{ ^ }", "for (a in 1:2) { ^ }", "if (1 < 2) { ^ }", "if (1 < 2) { } else { ^ }", "{ for (a in di:2) { if (di != a) { } else { { ^ } } } }"}
}

// does checks a statement in a block, wherever it may be there: the error at its ^, or none.
func does(t *testing.T, block int, s string, e api.Errno) {
	t.Helper()
	for _, a := range around() {
		if e == api.OK {
			passes(t, everywhere(block, strings.Replace(a, "^", strings.Replace(s, "^", "", 1), 1)))
		} else {
			fails(t, e, everywhere(block, strings.Replace(a, "^", s, 1)))
		}
		if t.Failed() {
			return
		}
	}
}

// values are expressions of each type, of variables of data, and, in blocks behind BkPars, of parameters.
func values(block int) []atom {
	out := []atom{{text: "di", ty: api.TyInt}, {text: "2", ty: api.TyInt}, {text: "size(dv)", ty: api.TyInt}, {text: "dk[1]", ty: api.TyInt}, {text: "dr", ty: api.TyReal}, {text: "0.5", ty: api.TyReal}, {text: "dv[1]", ty: api.TyReal}, {text: "di / 2", ty: api.TyReal}, {text: "dv", ty: api.TyVec}, {text: "-dv", ty: api.TyVec}, {text: "dk", ty: api.TyInts}, {text: "dy", ty: api.TyReals}}
	if block >= api.BkPars {
		out = append(out, atom{text: "size(pv)", ty: api.TyInt}, atom{text: "pr", ty: api.TyReal, par: true}, atom{text: "pv[1]", ty: api.TyReal, par: true}, atom{text: "pv * pr", ty: api.TyVec, par: true}, atom{text: "py", ty: api.TyReals, par: true})
	}
	return out
}

// fits tells whether a value may be that of a variable, or element, of a type.
func fits(ty uint8, a atom) bool {
	switch ty {
	case api.TyInt, api.TyVec:
		return a.ty == ty
	case api.TyReal:
		return a.isScalar()
	}
	return false
}

// elementOf is the type of a row's elements.
func elementOf(ty uint8) uint8 {
	if ty == api.TyInts {
		return api.TyInt
	}
	return api.TyReal
}

// P15.2: each variable of this block set to each value, with an index and without.
func TestSets(t *testing.T) {
	for _, block := range stmtBlocks() {
		if block == api.BkModel {
			continue
		}
		letter := "dmpt-g"[block : block+1]
		for _, ty := range types() {
			if isWhole(ty) && block > api.BkPars {
				continue
			}
			name := letter + suffixes[ty]
			for _, a := range values(block) {
				var e, ofElement api.Errno
				if !fits(ty, a) {
					e = api.ErrType
				}
				does(t, block, "^"+name+" = "+a.text+";", e)
				if ty < api.TyVec || !fits(elementOf(ty), a) {
					ofElement = api.ErrType
				}
				does(t, block, "^"+name+"[1] = "+a.text+";", ofElement)
				// The same as an index.
				at, e := "^"+name+"["+a.text+"]", api.OK
				if ty < api.TyVec {
					e = api.ErrType
				} else if a.ty != api.TyInt {
					at, e = name+"[^"+a.text+"]", api.ErrType
				}
				does(t, block, at+" = 1;", e)
			}
		}
	}
}

// P15.2: variables of other blocks, and what is none.
func TestSetsOfOthers(t *testing.T) {
	for _, block := range stmtBlocks() {
		for i := range titles() {
			if i == block || i == api.BkModel {
				continue
			}
			letter := "dmpt-g"[i : i+1]
			e := api.ErrType
			if i > block {
				e = api.ErrName
			}
			for _, suffix := range []string{"r", "v", "y"} {
				does(t, block, "^"+letter+suffix+" = 1;", e)
				does(t, block, "^"+letter+suffix+"[1] = 1;", e)
				does(t, block, "^"+letter+suffix+"[q] = q;", e)
			}
		}
		for _, a := range []string{"q", "sum", "normal", "d", "dii", "Di"} {
			does(t, block, "^"+a+" = 1;", api.ErrName)
			does(t, block, "^"+a+"[q] = q;", api.ErrName)
		}
		does(t, block, "for (b in 1:2) { ^b = 1; }", api.ErrType)
		does(t, block, "for (b in 1:2) { ^b[1] = 1; }", api.ErrType)
		does(t, block, "for (b in 1:2) { for (c in b:2) { ^b = q; } }", api.ErrType)
		does(t, block, "for (b in 1:2) { } ^b = 1;", api.ErrName)
	}
}

// P15.2: what is set may be of the block, whatever loops and branches it is set in.
func TestSetsInLoops(t *testing.T) {
	does(t, api.BkMade, "for (b in 1:2) { mi = b; mr = b; mv[b] = b; mk[b] = -b; my[b] = dy[b]; mv = mv * b; }", api.OK)
	does(t, api.BkTurned, "for (b in 1:2) { for (c in b:2) { tr = pr * c; tv[b] = pv[c]; ty[size(pv)] = py[c]; } tv = pv; }", api.OK)
	does(t, api.BkGenerated, "for (b in 1:2) { gr = tr + b; gv = tv / b; gy[b] = py[b]; }", api.OK)
}

// P15.2: the name, that it is of this block; then the index; then the value.
func TestFirstOfSet(t *testing.T) {
	does(t, api.BkMade, "^q[a1] = a2;", api.ErrName)
	does(t, api.BkMade, "^dv[a1] = a2;", api.ErrType)
	does(t, api.BkMade, "^dr = a2;", api.ErrType)
	does(t, api.BkMade, "mv[^a1] = a2;", api.ErrName)
	does(t, api.BkMade, "mr[^a1] = a2;", api.ErrName)
	does(t, api.BkMade, "mr[^exp()] = a2;", api.ErrType)
	does(t, api.BkMade, "^mr[1.5] = a2;", api.ErrType)
	does(t, api.BkMade, "^mr[1] = a2;", api.ErrType)
	does(t, api.BkMade, "^mi[dv] = a2;", api.ErrType)
	does(t, api.BkMade, "mv[^1.5] = a2;", api.ErrType)
	does(t, api.BkMade, "mv[^dk] = dv;", api.ErrType)
	does(t, api.BkMade, "mv[1] = ^a2;", api.ErrName)
	does(t, api.BkMade, "mr = dv + ^a2;", api.ErrName)
	does(t, api.BkMade, "mk = ^a2;", api.ErrName)
	does(t, api.BkMade, "my = ^(dv * dv);", api.ErrType)
	does(t, api.BkMade, "^mk = dk;", api.ErrType)
	does(t, api.BkMade, "^my = dy;", api.ErrType)
	does(t, api.BkMade, "^mv = dv[1];", api.ErrType)
	does(t, api.BkMade, "^mi = 1.5;", api.ErrType)
	does(t, api.BkMade, "^mk[1] = 1.5;", api.ErrType)
	does(t, api.BkMade, "^mv[1] = dv;", api.ErrType)
}

// P15.2: terms of each kind, in each block.
func TestTerms(t *testing.T) {
	for _, block := range stmtBlocks() {
		for _, a := range values(block) {
			switch {
			case block != api.BkModel:
				does(t, block, "^target += "+a.text+";", api.ErrType)
			case a.isScalar():
				does(t, block, "target += "+a.text+";", api.OK)
			default:
				does(t, block, "target += ^"+a.text+";", api.ErrType)
				does(t, block, "target += ^("+a.text+");", api.ErrType)
			}
		}
		if block == api.BkModel {
			does(t, block, "target += ^q;", api.ErrName)
			does(t, block, "target += pv * ^q;", api.ErrName)
			does(t, block, "target += ^dv; target += q;", api.ErrType)
		} else {
			does(t, block, "^target += q;", api.ErrType)
			does(t, block, "^target += dv;", api.ErrType)
		}
	}
}

// P15.2: loops from and to each kind, in each block.
func TestLoops(t *testing.T) {
	for _, block := range stmtBlocks() {
		for _, a := range values(block) {
			e := api.ErrType
			if a.ty == api.TyInt {
				e = api.OK
				does(t, block, "for (b in "+a.text+":^q) { }", api.ErrName)
			} else {
				does(t, block, "for (b in ^"+a.text+":q) { }", e)
			}
			does(t, block, "for (b in ^"+a.text+":2) { }", e)
			does(t, block, "for (b in 1:^"+a.text+") { }", e)
		}
	}
}

// P15.2: a loop's variable, where it exists, and where it does not.
func TestLoopVariables(t *testing.T) {
	for _, block := range stmtBlocks() {
		for _, s := range []string{
			"for (b in 1:2) { if (b < 2) { } } for (b in 2:3) { }",
			"for (b in 1:2) { for (c in b:dk[b]) { for (d in b * c:3) { } } }",
			"for (b in 1:2) { for (c in 1:2) { } for (c in 1:2) { } } for (c in 1:2) { for (b in c:2) { } }",
			"if (1 < 2) { for (b in 1:2) { } } else { for (b in 1:2) { } }",
			"{ for (b in 1:2) { } } for (b in 1:2) { }",
			"for (b in 1:2) { if (b < 2) { for (c in 1:b) { } } else { for (c in b:2) { } } }",
			"for (sum in 1:sum(dk)) { for (b in sum:sum(dk)) { } }",
			"for (normal in 1:2) { }",
		} {
			does(t, block, s, api.OK)
		}
		for _, s := range []string{
			"^for (di in 1:2) { }", "^for (dr in 1:2) { }", "^for (dv in q:p) { q = 1; }", "^for (dk in 1:2) { }",
			"for (b in 1:2) { ^for (b in 1:2) { } }", "for (b in 1:2) { for (c in 1:2) { ^for (b in q:2) { } } }", "for (b in 1:2) { { if (b < 1) { } else { ^for (b in b:b) { } } } }",
			"for (b in 1:2) { for (c in 1:2) { } ^for (b in 1:2) { } }",
			"for (b in 1:2) { } for (c in 1:2) { ^for (c in 1:2) { } }",
		} {
			does(t, block, s, api.ErrDouble)
		}
		for _, s := range []string{
			"for (b in ^b:2) { }", "for (b in 1:^b) { }", "for (b in 1:2) { } for (c in 1:^b) { }", "for (b in 1:2) { } if (^b < 1) { }",
			"for (b in 1:2) { for (c in 1:2) { } if (b < ^c) { } }", "{ for (b in 1:2) { } } if (1 < ^b) { }",
			"if (1 < 2) { for (b in 1:2) { } } else { for (c in 1:^b) { } }", "if (1 < 2) { for (b in 1:2) { } } if (^b < 1) { }",
			"for (b in 1:2) { for (c in 1:2) { for (d in 1:2) { } } for (e in 1:^d) { } }",
			"for (b in 1:2) { for (c in 1:2) { for (d in 1:2) { } } } for (e in 1:^c) { }",
		} {
			does(t, block, s, api.ErrName)
		}
	}
	does(t, api.BkModel, "for (b in 1:2) { target += pv[b] * b; pv[b] ~ normal(b, dk[b]); b ~ poisson(b); pr ~ gamma(b, pr); }", api.OK)
	does(t, api.BkModel, "for (b in 1:2) { target += ^b[1]; }", api.ErrType)
	does(t, api.BkModel, "for (b in 1:2) { target += ^size(b); }", api.ErrType)
	does(t, api.BkModel, "for (b in 1:2) { } target += ^b;", api.ErrName)
	does(t, api.BkModel, "for (b in 1:2) { } for (c in 1:2) { target += c; } target += ^c;", api.ErrName)
	// A loop's variable has gone when later blocks declare one with its name.
	passes(t, "transformed data { for (b in 1:2) { } } parameters { real b; } model { b ~ normal(0, 1); }", "transformed parameters { for (b in 1:2) { } } model { for (b in 1:2) { } for (c in 1:2) { } } generated quantities { vector[2] b; real c; }")
	fails(t, api.ErrDouble, "transformed data { for (b in 1:2) { } } parameters { real b; } model { ^for (b in 1:2) { } }")
}

// P15.2: comparisons of each kind, by each sign, in each block.
func TestChoices(t *testing.T) {
	signs := []string{"==", "!=", "<", "<=", ">", ">="}
	for _, block := range stmtBlocks() {
		for i, a := range values(block) {
			e := api.ErrType
			if a.ty == api.TyInt {
				e = api.OK
			}
			sign := signs[i%len(signs)]
			does(t, block, "if (^"+a.text+" "+sign+" 2) { }", e)
			does(t, block, "if (1 "+sign+" ^"+a.text+") { } else { }", e)
			if e != api.OK {
				does(t, block, "if (^"+a.text+" "+sign+" q) { q = 1; } else { q = 1; }", e)
				does(t, block, "if (1 "+sign+" ^"+a.text+") { q = 1; } else { q = 1; }", e)
			}
		}
		for _, sign := range signs {
			does(t, block, "if (1 "+sign+" size(dv)) { } else { }", api.OK)
			does(t, block, "if (^1.0 "+sign+" 1) { }", api.ErrType)
			does(t, block, "if (1 "+sign+" ^1e0) { }", api.ErrType)
			does(t, block, "if (^dv "+sign+" dv) { }", api.ErrType)
			does(t, block, "if (^dr "+sign+" dr) { }", api.ErrType)
			does(t, block, "if (^q "+sign+" p) { }", api.ErrName)
			does(t, block, "if (1 "+sign+" ^p) { }", api.ErrName)
		}
		// The comparison, then Body, then Else.
		does(t, block, "if (1 < ^q) { p = 1; } else { o = 1; }", api.ErrName)
		does(t, block, "if (1 < 2) { ^p = 1; } else { o = 1; }", api.ErrName)
		does(t, block, "if (1 < 2) { } else { ^o = 1; }", api.ErrName)
		does(t, block, "if (1 < 2) { if (2 < 3) { } else { ^p = 1; } } else { o = 1; } m = 1;", api.ErrName)
		does(t, block, "if (1 < 2) { } else { } ^m = 1;", api.ErrName)
		does(t, block, "{ ^p = 1; } o = 1;", api.ErrName)
		does(t, block, "{ { } { } } ^o = 1; { p = 1; }", api.ErrName)
		does(t, block, "for (b in 1:2) { ^p = 1; } o = 1;", api.ErrName)
	}
}

// P15.2: the examples of the chapter.
func TestExamples(t *testing.T) {
	fails(t, api.ErrType, "parameters { real x; } model { if (^x == 1) { } }")
	fails(t, api.ErrName, "parameters { real x; } model { x ~ normal(0, ^y); }")
	fails(t, api.ErrDouble, "data { int n; ^real n; }")
	fails(t, api.ErrType, "parameters { vector[2] x; } model { target += ^x; }")
	for s, at := range map[string]int{"parameters { real x; } model { if (^x == 1) { } }": 35, "parameters { real x; } model { x ~ normal(0, ^y); }": 45, "data { int n; ^real n; }": 14, "parameters { vector[2] x; } model { target += ^x; }": 46} {
		if _, got := marked(t, s); got != at {
			t.Errorf("%s: %d", s, got)
		}
	}
}

// P15.2: blocks in order, in each of them declarations ahead of statements, each in order.
func TestFirstOfProgram(t *testing.T) {
	var before []string
	for i, title := range titles() {
		decl, stmt := "real q"+title[:1]+string(rune('a'+i))+"; ", ""
		if i == api.BkModel {
			decl = ""
		}
		if i != api.BkData && i != api.BkPars {
			stmt = "if (1 < 2) { } "
		}
		rest := strings.Join(wrongBlocks()[i+1:], " ")
		head := strings.Join(before, " ") + " " + title + " { "
		if decl != "" {
			fails(t, api.ErrName, head+"vector[^a] z; vector[b] y; "+stmt+"} "+rest, head+decl+"vector[^a] z; int n; real n; } "+rest)
		}
		if stmt != "" {
			fails(t, api.ErrName, head+decl+"^a = 1; b = 1; } "+rest, head+decl+stmt+"{ ^a = 1; } if (1.5 < 2) { } } "+rest)
		}
		if decl != "" && stmt != "" {
			fails(t, api.ErrName, head+decl+"vector[^a] z; if (1.5 < 2) { } } "+rest)
		}
		before = append(before, title+" { "+decl+stmt+"}")
		passes(t, strings.Join(before, " "))
	}
}

// wrongBlocks are blocks that each have a fault.
func wrongBlocks() []string {
	out := slices.Clone(titles())
	for i, title := range titles() {
		out[i] = title + " { vector[1.5] p; }"
		if i == api.BkModel {
			out[i] = title + " { target += p; }"
		}
	}
	return out
}
