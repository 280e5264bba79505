package token_test

import (
	"strings"
	"testing"

	"stepstone/api"
)

// P11.1: the chapter's examples.
func TestReadExamples(t *testing.T) {
	reads(t, "x1<=2.5e3;", "0 name x1|2 sign <=|4 number 2.5e3|9 sign ;")
	reads(t, "a // b\n==c", "0 name a|7 sign ==|9 name c")
	for _, s := range []string{"1x;", "1.2.3;", "1e12345;", "#"} {
		fails(t, s, api.ErrLex, 0)
	}
}

// P11.1: ordinary sources, in several lines, with each of the list's signs in one of them.
func TestReadOrdinary(t *testing.T) {
	reads(t, "parameters { real x; }\nmodel { target += -x * x; }\n",
		"0 name parameters|11 sign {|13 name real|18 name x|19 sign ;|21 sign }|"+
			"23 name model|29 sign {|31 name target|38 sign +=|41 sign -|42 name x|44 sign *|46 name x|47 sign ;|49 sign }")
	reads(t, "data{int<lower=0>n;array[n]real y;}",
		"0 name data|4 sign {|5 name int|8 sign <|9 name lower|14 sign =|15 number 0|16 sign >|17 name n|18 sign ;|"+
			"19 name array|24 sign [|25 name n|26 sign ]|27 name real|32 name y|33 sign ;|34 sign }")
	reads(t, "for (i in 1:n) { // each one\n\ty[i] ~ normal(mu, 1.0e-2);\r\n}",
		"0 name for|4 sign (|5 name i|7 name in|10 number 1|11 sign :|12 name n|13 sign )|15 sign {|"+
			"30 name y|31 sign [|32 name i|33 sign ]|35 sign ~|37 name normal|43 sign (|44 name mu|46 sign ,|48 number 1.0e-2|54 sign )|55 sign ;|58 sign }")
	reads(t, "if(a!=b)c=d/e-f;else if(a>=1)g=2+h;if(a==b){}if(a<=b){}",
		"0 name if|2 sign (|3 name a|4 sign !=|6 name b|7 sign )|8 name c|9 sign =|10 name d|11 sign /|12 name e|13 sign -|14 name f|15 sign ;|"+
			"16 name else|21 name if|23 sign (|24 name a|25 sign >=|27 number 1|28 sign )|29 name g|30 sign =|31 number 2|32 sign +|33 name h|34 sign ;|"+
			"35 name if|37 sign (|38 name a|39 sign ==|41 name b|42 sign )|43 sign {|44 sign }|45 name if|47 sign (|48 name a|49 sign <=|51 name b|52 sign )|53 sign {|54 sign }")
}

// P11.1: what has no token: nothing, blanks, comments.
func TestReadNothing(t *testing.T) {
	for _, s := range []string{
		"", " ", "\t", "\n", "\r", "  ", "\r\n", " \t\n\r", "\n\n\n", strings.Repeat(" \t\r\n", 4000),
		"//", "// a", "// a\n", "//\n", "//\n\n//", "//\r//", "// 1x\n", "///", "////", "// /", "// //", "//a//b\n//c//d", " // a // b\n\t// c",
		"// \"a\" 'b' `c`", "//\x00\x7f\x80\xff\x0c#_.!\n", "// a /* b */", "//*\n", "// a\\\n//b", "//" + strings.Repeat("x", 9000) + "\n//" + strings.Repeat("y", 9000),
	} {
		reads(t, s, "")
	}
}

// P11.1: each blank divides what would be one token otherwise, and does nothing beside.
func TestReadBlanks(t *testing.T) {
	for _, b := range blanks() {
		reads(t, b+"a"+b+"b"+b, "1 name a|3 name b")
		reads(t, "1"+b+"2", "0 number 1|2 number 2")
		reads(t, "1"+b+"x", "0 number 1|2 name x")
		reads(t, "1.5"+b+"e3", "0 number 1.5|4 name e3")
		reads(t, "1e5"+b+"0", "0 number 1e5|4 number 0")
		reads(t, "="+b+"=", "0 sign =|2 sign =")
		reads(t, "+"+b+"=", "0 sign +|2 sign =")
		reads(t, "/"+b+"/", "0 sign /|2 sign /")
		reads(t, b+b+"a"+b+b+b+";", "2 name a|6 sign ;")
		reads(t, ";"+b+";", "0 sign ;|2 sign ;")
		fails(t, "1."+b+"5", api.ErrLex, 0)
		fails(t, "1e"+b+"5", api.ErrLex, 0)
		fails(t, "1"+b+".5", api.ErrLex, 2)
		fails(t, "!"+b+"=", api.ErrLex, 0)
	}
	// A line feed is the only one that ends a comment.
	for _, b := range []string{" ", "\t", "\r"} {
		reads(t, "//"+b+"a", "")
	}
	reads(t, "//\na", "3 name a")
}

// P11.1: a comment goes to the line's end, or the source's, whatever is in it; right behind a token it is none of it.
func TestReadComments(t *testing.T) {
	comments := []string{"//", "// b", "//b\t//c", "///", "//=", "//5", "// \"'`", "// /* */", "//\x00\xff!._#", "//\r"}
	check := func(kind uint8, list ...string) {
		for _, text := range list {
			for _, comment := range comments {
				reads(t, text+comment, one(kind, text, 0))
				reads(t, text+comment+"\n", one(kind, text, 0))
				reads(t, comment+"\n"+text, one(kind, text, len(comment)+1))
				reads(t, text+comment+"\n"+text, one(kind, text, 0)+"|"+one(kind, text, len(text)+len(comment)+1))
			}
		}
	}
	check(api.TkName, "a", "e5", "x_1")
	check(api.TkNumber, "1", "2.5", "1e5", "3e-7", "2.5e+1234")
	for _, s := range signs() {
		// One more slash at a comment's beginning is the comment's.
		if s != "/" {
			check(api.TkSign, s)
		}
	}
	reads(t, "a//b\n//c\n\n //d\nb//", "0 name a|15 name b")
	reads(t, "a//b\rc", "0 name a")
	reads(t, "a//b\r\nc", "0 name a|6 name c")
	fails(t, "a//b\n#//", api.ErrLex, 5)
	fails(t, "// #\n #", api.ErrLex, 6)
}

// P11.1: one slash is a sign, also at the end; two with something between are two.
func TestReadSlashes(t *testing.T) {
	reads(t, "/", "0 sign /")
	reads(t, "a/", "0 name a|1 sign /")
	reads(t, "a/b", "0 name a|1 sign /|2 name b")
	reads(t, " / ", "1 sign /")
	reads(t, "/ /", "0 sign /|2 sign /")
	reads(t, "/ //", "0 sign /")
	reads(t, "///", "")
	reads(t, "/\n/", "0 sign /|2 sign /")
	reads(t, "/=/", "0 sign /|1 sign =|2 sign /")
	reads(t, "/*/", "0 sign /|1 sign *|2 sign /")
	reads(t, "*//", "0 sign *")
	reads(t, "/\n//\n/", "0 sign /|5 sign /")
}

// P11.1: of several faults the first one in the source counts.
func TestReadFirstFault(t *testing.T) {
	fails(t, "# 1x", api.ErrLex, 0)
	fails(t, "a 1x #", api.ErrLex, 2)
	fails(t, "a # 1x", api.ErrLex, 2)
	fails(t, "a //#\n; 1.2.3 1e12345 _", api.ErrLex, 8)
	fails(t, "1e12345 1x", api.ErrLex, 0)
	fails(t, "x = 1; _ . !", api.ErrLex, 7)
	fails(t, "\n\n.\n!\n_", api.ErrLex, 2)
	fails(t, "ab\x00\x01", api.ErrLex, 2)
	fails(t, "ab 12\x00 #", api.ErrLex, 5)
	fails(t, "ab 12x\x00 #", api.ErrLex, 3)
}
