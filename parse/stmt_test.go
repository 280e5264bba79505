package parse_test

import (
	"strings"
	"testing"

	"stepstone/api"
)

// does checks what a statement is read as, but for places: by itself, and in others.
func does(t *testing.T, s, want string) {
	t.Helper()
	m := newModel()
	for _, x := range []struct{ around, want string }{
		{"model { ^ }", "4: | ^"},
		{"model { ^ ^ }", "4: | ^; ^"},
		{"transformed data { int n; ^ }", "1: int n | ^"},
		{"transformed parameters { real n = 1; ^ }", "3: real n init 1 | ^"},
		{"generated quantities { ^ }", "5: | ^"},
		{"model { { ^ } }", "4: | block {^}"},
		{"model { for (i in 1:2) { ^ } }", "4: | for i 1, 2 {^}"},
		{"model { if (a < b) { ^ } { } }", "4: | if  lt{a, b} {^}; block {}"},
		{"model { if (a < b) { } else { ^ } { } }", "4: | if  lt{a, b} {} else {^}; block {}"},
		{"model { a = 1; { { ^ } } b ~ c(); }", "4: | set a 1; block {block {^}}; dist c b"},
	} {
		source, told := strings.ReplaceAll(x.around, "^", s), strings.ReplaceAll(x.want, "^", want)
		if f := m.check(t, source); f != (api.Fault{}) {
			t.Errorf("Parse(%s): %s", shown(source), shownFault(f))
			continue
		}
		n, _ := m.read(source, "Program")
		if got := withoutPlaces(toldProg(progOf(n))); got != told {
			t.Errorf("Parse(%s) = %s, want %s", shown(source), got, told)
		}
	}
}

// P13.1: assignments, with an index and without.
func TestAssignments(t *testing.T) {
	does(t, "a = 1;", "set a 1")
	does(t, "a[2] = 1;", "set a 2, 1")
	does(t, "a[b[i] + 1] = b[i] * -c;", "set a add{b[i], 1}, mul{b[i], neg{c}}")
	does(t, "a[(2)] = (1);", "set a 2, 1")
	does(t, "a = a;", "set a a")
	does(t, "normal = f(a);", "set normal f(a)")
	does(t, "a[a[a[1]]] = a[1];", "set a a[a[1]], a[1]")
	refusesIn(t,
		"(a) ^= 1;", "((a)) ^= 1;", "(a[1]) ^= 1;", "-a ^= 1;", "-a[1] ^= 1;", "1 ^= 1;", "f() ^= 1;", "f(a) ^= 1;", "a + b ^= 1;", "a * b ^= 1;", "a[1] + 1 ^= 1;", "1 + a ^= 1;", "a[1] * a[2] ^= 1;", "a + (b) ^= 1;", "(a) + b ^= 1;", "-(a) ^= 1;",
		"a = ^;", "a[^] = 1;", "a[1 ^, 2] = 1;", "a[1] ^[2] = 1;", "a[1] = ^;", "a = 1 ^= 2;", "a = b ^= c;", "a ^== 1;", "a ^+= 1;", "a[1] ^+= 1;", "a = 1 ^}", "a[1] = 1 ^}", "a = 1 ^, 2;", "a = 1 ^2;", "a = b ^c;", "a ^;", "a[1] ^;", "a ^, b = 1;", "a ^: 1;", "a ^b = 1;", "a ^<= 1;", "a = ^= 1;", "a[1 ^) = 1;", "a[1 ^;", "a ^] = 1;", "a = 1 ^~ f();", "a = b ^~ f();", "a ^< 1;", "a = 1; ^;", "^= 1;", "^[1] = 1;")
}

// P13.1: terms of the target, which is no name.
func TestTerms(t *testing.T) {
	does(t, "target += 1;", "term  1")
	does(t, "target += -a * (b + f(1, 2));", "term  mul{neg{a}, add{b, f(1, 2)}}")
	does(t, "target += (a);", "term  a")
	refusesIn(t,
		"target ^= 1;", "target ^;", "target ^~ f();", "target ^+ 1 ~ f();", "target ^[1] = 1;", "target ^[1] += 1;", "target ^(1);", "target ^- 1;", "target ^-= 1;", "target ^+ = 1;", "target ^== 1;", "target += ^;", "target += 1 ^}", "target += 1 ^, 2;", "target += ^= 1;", "target += ^+= 1;", "target += 1 ^+= 2;", "target += ^target;", "target += f(^target);", "target += 1 ^target", "(^target) += 1;", "- ^target += 1;", "^+= 1;", "a ^+= 1;", "targets ^+= 1;", "Target ^+= 1;",
		"a ~ ^target();", "a = ^target;", "a[^target] = 1;", "a = ^target + 1;", "a = 1 + ^target;", "a = ^target();", "for (^target in 1:2) { }", "for (i in ^target : 2) { }", "if (^target < 1) { }", "if (1 < ^target) { }", "^+ target = 1;")
}

// P13.1: distributions, of any sum, with any number of arguments.
func TestDistributions(t *testing.T) {
	does(t, "a ~ f();", "dist f a")
	does(t, "a ~ f(1);", "dist f a, 1")
	does(t, "a ~ normal(b, c + 1, -1, (2));", "dist normal a, b, add{c, 1}, neg{1}, 2")
	does(t, "a[1] ~ f(b);", "dist f a[1], b")
	does(t, "(a) ~ f(b);", "dist f a, b")
	does(t, "(a[1]) ~ f(b);", "dist f a[1], b")
	does(t, "((a)) ~ a(a);", "dist a a, a")
	does(t, "1 ~ f();", "dist f 1")
	does(t, "-1 ~ f();", "dist f neg{1}")
	does(t, "- - a ~ f();", "dist f neg{neg{a}}")
	does(t, "f() ~ f();", "dist f f()")
	does(t, "f(a, b) ~ f(f(a, b));", "dist f f(a, b), f(a, b)")
	does(t, "a + b ~ f();", "dist f add{a, b}")
	does(t, "a * b - c[1] ~ f();", "dist f sub{mul{a, b}, c[1]}")
	does(t, "a[1] / 2 ~ f();", "dist f div{a[1], 2}")
	does(t, "(a + b) * c ~ f();", "dist f mul{add{a, b}, c}")
	does(t, "a ~ f("+strings.Repeat("1, ", 99)+"2);", "dist f a"+strings.Repeat(", 1", 99)+", 2")
	refusesIn(t,
		"a ~ ^;", "a ~ f ^;", "a ~ f(^;", "a ~ f(^,);", "a ~ f(1 ^;", "a ~ f(1, ^);", "a ~ f(^, 1);", "a ~ f(1 ^2);", "a ~ f(1 ^; 2);", "a ~ f() ^}", "a ~ f() ^, b;", "a ~ f() ^+ 1;", "a ~ f() ^~ g();", "a ~ f ^[1];", "a ~ ^(f)();", "a ~ ^1();", "a ~ ^-f();", "a ~ f()^() ;", "a ~ f(1)^(2) ;", "a ~ f(1, ^, 2);", "a ^< b ~ f();", "a ^== b ~ f();", "a ~ f(b ^< c);", "a ~ f(b ^= c);", "a ~ f(1 ^];", "^~ f();", "a + ^~ f();", "(a ^~ f());", "a ^, b ~ f();", "a ~ f() ^target", "(a) ^(b) ~ f();", "1 ^a ~ f();", "a ~ f(^;)", "f(a) ^;", "1 ^;", "a + b ^;", "(a) ^;", "-a ^;", "a ~ ^~ f();")
}

// P13.1: loops.
func TestLoops(t *testing.T) {
	does(t, "for (i in 1:2) { }", "for i 1, 2 {}")
	does(t, "for (i in (1):(2)) { }", "for i 1, 2 {}")
	does(t, "for (i in -1 : a * 2 + f(1)) { a[i] = 1; target += i; }", "for i neg{1}, add{mul{a, 2}, f(1)} {set a i, 1; term  i}")
	does(t, "for (i in 1:2) { for (j in i:n) { x ~ f(i); } for (i in i:i) { } }", "for i 1, 2 {for j i, n {dist f x, i}; for i i, i {}}")
	does(t, "for (i in i[1]:f(i)) { { } if (i < j) { } }", "for i i[1], f(i) {block {}; if  lt{i, j} {}}")
	refusesIn(t,
		"for ^i in 1:2 { }", "for (^) { }", "for (^1 in 1:2) { }", "for (^(i) in 1:2) { }", "for (i ^1:2) { }", "for (i ^= 1:2) { }", "for (i ^: 1:2) { }", "for (i in ^) { }", "for (i in ^: 2) { }", "for (i in 1 ^) { }", "for (i in 1 ^, 2) { }", "for (i in 1:^) { }", "for (i in 1:2 ^:3) { }", "for (i in 1:2 ^{ }", "for (i in 1:2) ^;", "for (i in 1:2) ^a = 1;", "for (i in 1:2) ^target += 1;", "for (i in 1:2) ^for (j in 1:2) { }", "for (i in 1:2) ^( )", "for (i in 1:2 ^; ) { }", "for (i ^[1] in 1:2) { }", "for (i ^, j in 1:2) { }", "for ^{ }", "for ^[i in 1:2] { }", "for (i in 1 ^< 2) { }", "for (i in 1:2 ^< 3) { }", "for (i ^in_ 1:2) { }", "for (i ^i in 1:2) { }", "for (i in ^in 1:2) { }", "for (i in 1:2 ^] { }", "for (i in 1:2) { } ^else { }", "for (i in 1:2) { } ^;", "^in 1:2;", "for (^int i in 1:2) { }")
	refuses(t, "model { for (i in 1:2) { }^", "model { for (i in 1:2) {^", "model { for (i in 1:2)^", "model { for (i in 1:2^", "model { for (i in 1:^", "model { for (i in 1^", "model { for (i in^", "model { for (i^", "model { for (^", "model { for^")
}

// P13.1: choices, with Else and without, in each other.
func TestChoices(t *testing.T) {
	does(t, "if (a < b) { }", "if  lt{a, b} {}")
	does(t, "if (a < b) { } else { }", "if  lt{a, b} {}")
	does(t, "if (a < b) { x = 1; } else { }", "if  lt{a, b} {set x 1}")
	does(t, "if (a < b) { } else { x = 1; }", "if  lt{a, b} {} else {set x 1}")
	does(t, "if (a < b) { x = 1; y = 2; } else { { } z = 3; }", "if  lt{a, b} {set x 1; set y 2} else {block {}; set z 3}")
	does(t, "if (a < b) { if (c > d) { } } else { e = 1; }", "if  lt{a, b} {if  gt{c, d} {}} else {set e 1}")
	does(t, "if (a < b) { if (c > d) { } else { e = 1; } }", "if  lt{a, b} {if  gt{c, d} {} else {set e 1}}")
	does(t, "if (a < b) { } else { if (c > d) { } else { e = 1; } }", "if  lt{a, b} {} else {if  gt{c, d} {} else {set e 1}}")
	does(t, "if (a < b) { } else { if (c > d) { } else { } }", "if  lt{a, b} {} else {if  gt{c, d} {}}")
	does(t, "if (a < b) { if (c < d) { if (e < f) { } else { { } } } else { } } else { for (i in 1:2) { if (g < h) { } else { a = 1; } } }",
		"if  lt{a, b} {if  lt{c, d} {if  lt{e, f} {} else {block {}}}} else {for i 1, 2 {if  lt{g, h} {} else {set a 1}}}")
	refusesIn(t,
		"if ^a < b { }", "if (^) { }", "if (a ^) { }", "if (a < ^) { }", "if (^< b) { }", "if (a < b ^< c) { }", "if (a == b ^== c) { }", "if (a < b ^{ }", "if (a < b) ^;", "if (a < b) ^a = 1;", "if (a < b) ^else { }", "if (a < b) { } else ^;", "if (a < b) { } else ^a = 1;", "if (a < b) { } else ^if (c < d) { }", "if (a < b) { } else { } ^else { }", "if (a < b) { } ^;", "if (a < b) { } ^, { }", "^else { }", "{ } ^else { }", "a = 1; ^else { }", "if ((a ^< b)) { }", "if (a < (b ^< c)) { }", "if ((a) < b ^] { }", "if (a < b ^; c) { }", "if (a < b ^, c < d) { }", "if (a ^= b) { }", "if (a ^=) { }", "if (a ^~ b) { }", "if (-(a ^< b)) { }", "if (f(a ^< b)) { }", "if (y[a ^< b] < 1) { }", "if (a < b) { } Else ^{ }", "if ^[a < b] { }", "if (a < b) ^( )", "if (a ^: b) { }")
	refuses(t, "model { if^", "model { if (^", "model { if (a^", "model { if (a <^", "model { if (a < b^", "model { if (a < b)^", "model { if (a < b) {^", "model { if (a < b) { }^", "model { if (a < b) { } else^", "model { if (a < b) { } else {^", "model { if (a < b) { } else { }^", "model { if (a < b) { } ^int", "model { if (a < b) ^}")
}

// P13.1: blocks of statements, and what is no statement.
func TestBlocks(t *testing.T) {
	does(t, "{ }", "block {}")
	does(t, "{ { } { { } } }", "block {block {}; block {block {}}}")
	does(t, "{ a = 1; { b ~ f(); } target += 1; }", "block {set a 1; block {dist f b}; term  1}")
	for _, word := range taken() {
		switch word {
		case "for", "if", "target":
			continue
		}
		refusesIn(t, "^"+word, "^"+word+" = 1;", "{ ^"+word+" }", "a = 1; ^"+word, "for (i in 1:2) { ^"+word+" }")
	}
	for _, sign := range signs() {
		switch sign {
		case "{", "}", "(", "-":
			continue
		}
		refusesIn(t, "^"+sign, "{ ^"+sign+" }", "a = 1; ^"+sign+" a = 2;", "{ } ^"+sign)
	}
	refuses(t, "model { {^", "model { { }^", "model { { } } ^}", "model { { ^) }", "model { { ^] }", "model { { } ^) }")
}

// P13.1: words that are no names, and names next to these, at each place of statements where a name is.
func TestNames(t *testing.T) {
	m := newModel()
	for _, word := range taken() {
		refusesIn(t, "a = ^"+word+";", "a[^"+word+"] = 1;", "a ~ ^"+word+"();", "a ~ f(^"+word+");", "a ~ f(1, ^"+word+"(1));", "for (^"+word+" in 1:2) { }", "for (i in ^"+word+":2) { }", "for (i in 1:^"+word+") { }", "if (^"+word+" < 1) { }", "if (1 < ^"+word+") { }", "target += ^"+word+";", "target += -^"+word+";", "target += (^"+word+");", "(^"+word+") ~ f();", "-^"+word+" ~ f();", "1 + ^"+word+" ~ f();", "1 * ^"+word+" ~ f();")
		for _, near := range nextTo(word) {
			s := "model { " + near + " = 1; " + near + "[" + near + "] = " + near + "[1]; " + near + " ~ " + near + "(" + near + "); for (" + near + " in " + near + ":" + near + "(1)) { } if (" + near + " < -" + near + ") { } target += " + near + "; }"
			if f := m.check(t, s); f != (api.Fault{}) {
				t.Errorf("the name %s: %s", near, shownFault(f))
			}
		}
	}
}
