package tree_test

import (
	"strconv"
	"testing"

	"stepstone/api"
)

// titles are what the blocks begin with.
func titles() []string {
	return []string{"data", "transformed data", "parameters", "transformed parameters", "model", "generated quantities"}
}

// P12.1, P12.2: programs without blocks, with each one alone, with all of them; blocks that are there and empty.
func TestProg(t *testing.T) {
	writesAll(t, api.Prog{}, "")
	var all api.Prog
	want := ""
	for i, title := range titles() {
		writesAll(t, in(i, nil, nil), title+" {|}|")
		writesAll(t, in(i, decls(), stmts()), title+" {|}|")
		all.Blocks[i].Is = true
		want += title + " {|}|"
		writesAll(t, all, want)
		for j := range i {
			both := in(i, nil, nil)
			both.Blocks[j].Is = true
			writesAll(t, both, titles()[j]+" {|}|"+title+" {|}|")
		}
	}
	var empty api.Prog
	for i := range empty.Blocks {
		empty.Blocks[i] = api.Block{Decls: decls(), Stmts: make([]api.Stmt, 0, 3)}
	}
	writesAll(t, empty, "")
}

// P12.2: a program with everything.
func TestProgOrdinary(t *testing.T) {
	writesAll(t, ordinary(), "data {|int < lower = 0 > n ;|real < upper = - 1 > r ;|vector < lower = x + 1 , upper = 2.5e3 > [ n ] v ;|array [ 4 ] int < lower = 0 , upper = 9 > k ;|array [ n - 1 ] real y ;|}|"+
		"transformed data {|int m = size ( y ) ;|for ( i in 1 : m ) {|w [ i ] = y [ i ] / 3 ;|{|}|}|}|"+
		"parameters {|real < lower = 0 , upper = f ( ) > s ;|vector [ 2 ] u ;|}|"+
		"transformed parameters {|real a = x * ( x + 1 ) ;|vector [ 2 ] z = u ;|b = x - ( 1 - x ) ;|}|"+
		"model {|if ( x + 1 == 0 ) {|target += x ;|}|if ( x + 1 != 0 ) {|target += x ;|}|else {|target += 1 ;|}|if ( x + 1 < 0 ) {|target += x ;|}|if ( x + 1 <= 0 ) {|target += x ;|}|else {|target += 1 ;|}|if ( x + 1 > 0 ) {|target += x ;|}|if ( x + 1 >= 0 ) {|target += x ;|}|else {|target += 1 ;|}|"+
		"y [ 1 + 1 ] ~ normal ( 0 , s ) ;|x ~ flat ( ) ;|{|target += x / ( x * 1 ) ;|for ( i in 1 : 3 ) {|}|}|}|"+
		"generated quantities {|array [ 2 ] real g ;|g [ 1 ] = - - x ;|}|")
}

// P12.1: a block that is not there has nothing.
func TestProgAbsent(t *testing.T) {
	for i := range 6 {
		for _, p := range []api.Prog{in(i, decls(plain(api.TyInt, "n")), nil), in(i, nil, stmts(group())), in(i, decls(plain(api.TyInt, "n")), stmts(group()))} {
			p.Blocks[i].Is = false
			refusesAll(t, "absent block "+strconv.Itoa(i), p)
			for j := range 6 {
				if j != i {
					p.Blocks[j].Is = true
				}
			}
			refusesAll(t, "absent block "+strconv.Itoa(i)+" among others", p)
		}
	}
}

// P12.1: data and parameters have no statements, model has no declarations; the others have both.
func TestProgWhere(t *testing.T) {
	for i, title := range titles() {
		d, s := in(i, decls(plain(api.TyReal, "a")), nil), in(i, nil, stmts(group()))
		both := in(i, decls(plain(api.TyReal, "a"), plain(api.TyVec, "b")), stmts(group(), add(num("1"))))
		hasDecls, hasStmts := i != api.BkModel, i != api.BkData && i != api.BkPars
		if hasDecls {
			writesAll(t, d, title+" {|real a ;|}|")
		} else {
			refusesAll(t, "declaration in "+title, d)
		}
		if hasStmts {
			writesAll(t, s, title+" {|{|}|}|")
		} else {
			refusesAll(t, "statement in "+title, s)
		}
		if hasDecls && hasStmts {
			writesAll(t, both, title+" {|real a ;|vector [ 3 ] b ;|{|}|target += 1 ;|}|")
		} else {
			refusesAll(t, "both in "+title, both)
		}
		p := ordinary()
		if !hasDecls {
			p.Blocks[i].Decls = decls(plain(api.TyReal, "a"))
			refusesAll(t, "one more declaration in "+title, p)
		}
		if !hasStmts {
			p.Blocks[i].Stmts = stmts(group())
			refusesAll(t, "one more statement in "+title, p)
		}
	}
}

// P12.1, P12.2: each type in each block, with each of the bounds and both, with an initial value and without.
func TestDecl(t *testing.T) {
	words := map[uint8][2]string{api.TyInt: {"int", ""}, api.TyReal: {"real", ""}, api.TyVec: {"vector", " [ 3 ]"}, api.TyInts: {"array [ 3 ] int", ""}, api.TyReals: {"array [ 3 ] real", ""}}
	bounds := []string{"", " < lower = 0 >", " < upper = x >", " < lower = 0 , upper = x >"}
	for at, title := range titles() {
		if at == api.BkModel {
			continue
		}
		for ty, word := range words {
			for i, bound := range bounds {
				d := plain(ty, "a")
				d.Lower, d.Upper = exprs(num("0"))[:i%2], exprs(name("x"))[:i/2]
				writesAll(t, in(at, decls(d), nil), title+" {|"+word[0]+bound+word[1]+" a ;|}|")
				d.Init = exprs(neg(name("z")))
				if p := in(at, decls(d), nil); at == api.BkData || at == api.BkPars || ty >= api.TyInts {
					refusesAll(t, "initial value of type "+strconv.Itoa(int(ty))+" in "+title, p)
				} else {
					writesAll(t, p, title+" {|"+word[0]+bound+word[1]+" a = - z ;|}|")
				}
			}
		}
	}
}

// P12.1: types that are none.
func TestDeclNoType(t *testing.T) {
	for ty := range 256 {
		if ty >= int(api.TyInt) && ty <= int(api.TyReals) {
			continue
		}
		for _, at := range []int{api.BkData, api.BkMade, api.BkPars, api.BkTurned, api.BkGenerated} {
			refusesAll(t, "type "+strconv.Itoa(ty), in(at, decls(decl(uint8(ty), "a", nil, nil, nil, nil)), nil))
			refusesAll(t, "type "+strconv.Itoa(ty)+" with a size", in(at, decls(plain(uint8(ty), "a"), decl(uint8(ty), "a", exprs(num("1")), nil, nil, nil)), nil))
		}
	}
	refusesAll(t, "the zero declaration", in(api.BkData, decls(api.Decl{}), nil))
	refusesAll(t, "the zero declaration", in(api.BkMade, decls(api.Decl{}), nil))
}

// P12.1: a size where there is to be none, none where there is to be one, and lists of two.
func TestDeclWrongLists(t *testing.T) {
	one, two := exprs(num("1")), exprs(num("1"), num("2"))
	for _, ty := range types() {
		for _, at := range []int{api.BkData, api.BkMade, api.BkPars, api.BkTurned, api.BkGenerated} {
			check := func(what string, change func(d *api.Decl)) {
				t.Helper()
				d := plain(ty, "a")
				change(&d)
				refusesAll(t, what+" of type "+strconv.Itoa(int(ty))+" in "+titles()[at], in(at, decls(d), nil))
				refusesAll(t, what+" of type "+strconv.Itoa(int(ty))+" in "+titles()[at]+", between others", in(at, decls(plain(api.TyReal, "b"), d, plain(ty, "c")), nil))
			}
			if ty >= api.TyVec {
				check("no size", func(d *api.Decl) { d.Size = nil })
				check("empty size", func(d *api.Decl) { d.Size = exprs() })
			} else {
				check("size", func(d *api.Decl) { d.Size = one })
			}
			check("two sizes", func(d *api.Decl) { d.Size = two })
			check("two lower bounds", func(d *api.Decl) { d.Lower = two })
			check("two upper bounds", func(d *api.Decl) { d.Upper = two })
			check("two initial values", func(d *api.Decl) { d.Init = two })
			check("no name", func(d *api.Decl) { d.Name = "" })
			check("word", func(d *api.Decl) { d.Name = "lower" })
			check("number", func(d *api.Decl) { d.Name = "1" })
		}
	}
}

// P12.1: a size, bounds and initial values that are no valid expressions.
func TestDeclWrongKids(t *testing.T) {
	for i, e := range exprs(api.Expr{}, both(api.ExLt, num("1"), num("2")), name("upper"), num("x"), neg(name("")), ex(api.ExSub, "", num("1"))) {
		l := exprs(e)
		for _, at := range []int{api.BkData, api.BkMade, api.BkPars, api.BkTurned, api.BkGenerated} {
			for _, ty := range types() {
				d := plain(ty, "a")
				d.Lower = l
				refusesAll(t, "wrong lower bound "+strconv.Itoa(i), in(at, decls(d), nil))
				d = plain(ty, "a")
				d.Upper = l
				refusesAll(t, "wrong upper bound "+strconv.Itoa(i), in(at, decls(d), nil))
				if d = plain(ty, "a"); ty >= api.TyVec {
					d.Size = l
					refusesAll(t, "wrong size "+strconv.Itoa(i), in(at, decls(d), nil))
				}
			}
			refusesAll(t, "wrong initial value "+strconv.Itoa(i), in(at, decls(decl(api.TyReal, "a", nil, nil, nil, l)), nil))
		}
	}
}
