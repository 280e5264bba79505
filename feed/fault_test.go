package feed_test

import (
	"strings"
	"testing"

	"stepstone/api"
	"stepstone/feed"
)

// P14.1: texts that end where more has to follow: at their length, blanks and comments behind the last token included.
func TestEnds(t *testing.T) {
	for _, s := range []string{"n", "n=", "n=-", "n=1", "n=-1", "n=1.5e-3", "n=[", "n=[-", "n=[1", "n=[-1", "n=[1,", "n=[1,-", "n=[1,2", "n=[]", "n=[1]", "n=[1,2]"} {
		for _, behind := range []string{"", " ", "\n\n", "// ;", " // x\n\t", "//\n//"} {
			refuses(t, s+behind+"^", "a=1;b=[];"+s+behind+"^")
		}
	}
}

// P14.1: where commas, signs and brackets can't be.
func TestWrongValues(t *testing.T) {
	refuses(t,
		"n=[1,^];", "n=[^,1];", "n=[1,^,2];", "n=[^,];", "n=[^,", "n=1^,2;", "n=^,;", "n=1^,;", "n=[]^,[];", "n=[1 ^2];", "n=[1^;2];", "n=[1,2,^];", "n=[-1,^];",
		"n=-^-1;", "n=[-^-1];", "n=[1,-^-1];", "n=-^;", "n=[-^];", "n=[-^,1];", "n=[1,-^];", "n=-^=1;", "n=1^-;", "n=1^-1;", "n=[1^-1];", "n=[1^-];", "n=^+1;", "n=[^+1];", "n=-^+1;", "n=[1,^+1];",
		"n=[^[1]];", "n=[1^[;", "n=[1]^];", "n=1^];", "n=^];", "n=[]^];", "n=[^[],1];", "n=-^[1];", "n=^(1);", "n=^{1};", "n=1^*2;", "n=^n;", "n=^m;", "n=[^m];", "n=-^m;", "n=^data;",
		"n^==1;", "n= ^=1;", "n ^1;", "n^;", "n^[1];", "n^-1;", "n^+=1;", "n=1^=1;", "n^:1;", "n^~1;",
		"n=1 ^2;", "n=1 ^m=2;", "n=1;^;", "n=1;^;m=2;", "^;n=1;", "^=1;", "^-1;", "^1;", "^[1];", "n=^;", "n=[^;", "n=[1^;", "n=[1,^;", "n=[]^n=1;",
	)
}

// tooLong are numbers of one byte more than may be, of each form, and some that are much longer.
func tooLong() []string {
	var out []string
	for _, form := range []struct{ before, behind string }{{"", ""}, {"", "1"}, {"7", ""}, {"1.", ""}, {"", ".5"}, {"", "e1234"}, {"", ".0e-1234"}, {"0.", "e+1"}} {
		zeros := mostNumeral + 1 - len(form.before) - len(form.behind)
		out = append(out, form.before+strings.Repeat("0", zeros)+form.behind, form.before+strings.Repeat("0", 10*zeros)+form.behind)
	}
	return append(out, strings.Repeat("9", mostNumeral+1), strings.Repeat("1", mostBytes-500))
}

// P14.1: numbers of as many bytes as may be, and of one more, alone, in [ ], with - ahead.
func TestNumeralLength(t *testing.T) {
	for _, long := range tooLong() {
		for _, before := range []string{"n=^", "n = ^", "n=-^", "n=- ^", "n=[^", "n=[-^", "n=[1,^", "n=[1,-2,-^", "n=1;m=^", "n=1;m=[2];k=[3,-^", "n=// -\n^"} {
			for _, behind := range []string{";", "];", ",1];", "", " 1", "=", " n", "; n=2;"} {
				fails(t, api.ErrLong, before+long+behind)
			}
		}
		// Of two the first one counts.
		if len(long) < 5000 {
			fails(t, api.ErrLong, "n=[1,^"+long+","+long+"];")
			fails(t, api.ErrLong, "n=^"+long+";n="+long+";")
		}
		// The sign is none of the bytes, nor are the zeros fewer for being zeros.
		fits := long[:mostNumeral-1]
		if fits = strings.TrimRight(fits, "."); !strings.HasSuffix(long, strings.Repeat("0", 4)) {
			fits += "0"
		}
		if l, f := feed.Read("n=-" + fits + ";m=[-" + fits + "];"); f != (api.Fault{}) || len(l) != 2 {
			t.Errorf("%s: %s", shown(fits), shownFault(f))
		}
	}
	for n := mostNumeral - 3; n <= mostNumeral; n++ {
		reads(t, "n=-"+strings.Repeat("0", n-1)+"7;", "n@0 whole -7")
		reads(t, "n=[1,-"+strings.Repeat("0", n-3)+"3.0];", "n@0 [1 -3]")
		reads(t, "n="+strings.Repeat("0", n-5)+"20e-1;", "n@0 2")
		fails(t, api.ErrLong, "n=^"+strings.Repeat("0", n+3)+"1;")
	}
}

// P14.1: a number that is too long where no number is to be is ErrSyntax, as that comes first.
func TestNumeralOutOfPlace(t *testing.T) {
	long := strings.Repeat("1", mostNumeral+1)
	refuses(t, "^"+long, "^"+long+"=1;", "n ^"+long, "n=1 ^"+long, "n=[1 ^"+long, "n=[] ^"+long, "n=[1] ^"+long, "n=1;^"+long, "n=[1,2 ^"+long+"];")
}

// P14.1: of two faults of data the first one in the text counts.
func TestTwoFaults(t *testing.T) {
	long := strings.Repeat("1", mostNumeral+1)
	fails(t, api.ErrThere, "n=1;^n=;")
	fails(t, api.ErrThere, "n=1;^n="+long+";")
	fails(t, api.ErrThere, "n=1;^n n")
	fails(t, api.ErrThere, "n=1;^n=1;n=1;")
	fails(t, api.ErrSyntax, "n=1;m=^;n=1;")
	fails(t, api.ErrSyntax, "n=1;m=[1,^];n="+long+";")
	fails(t, api.ErrSyntax, "n=1;^;n=1;")
	fails(t, api.ErrLong, "n=^"+long+";n=1;")
	fails(t, api.ErrLong, "n=^"+long+" 1;")
	fails(t, api.ErrLong, "n=[^"+long+",];")
	fails(t, api.ErrLong, "n=1;m=[^"+long)
	fails(t, api.ErrSyntax, "n=[1,^,"+long+"];")
	fails(t, api.ErrSyntax, "n=-^-"+long+";")
}

// lexFaults are texts that layer 11 does not read, with a ^ where their fault is.
func lexFaults() []string {
	return []string{"^1x", "^1.2.3", "^1.", "^1..2", "^1e12345", "^1e+12345", "^1.5e-00000", "^1e", "^1e+", "^1_", "^#", "^!", "^.", "^.5", "^_", "^_a", "^\"", "^'", "^&", "^|", "^@", "^%", "^?", "^\\", "^\x00", "^\x7f", "^\x80", "^é", "^\xff", "^\v", "^\f", "=^!", "1^#"}
}

// P14.1: layer 11's faults come before those of data, also where these are ahead of them.
func TestTokensFirst(t *testing.T) {
	long := strings.Repeat("1", mostNumeral+1)
	for _, x := range lexFaults() {
		for _, before := range []string{"", "n=1; ", "n=", "n=[1,", "n=;", "n=1;n=2;", "n=" + long + ";", "= ", ", ", "n=- - 1;", "data=1;", "n=[ // ]\n", "n=1;m ", "a b ", "n=1;n=" + long + ";"} {
			for _, behind := range []string{"", " ", ";", " ];", "\n1x", " // x"} {
				if strings.HasSuffix(before, "=") && strings.HasPrefix(x, "=") {
					continue // == is a sign
				}
				fails(t, api.ErrLex, before+x+behind)
			}
		}
	}
	fails(t, api.ErrLex, "n=1;n=2;^#;m="+long+";")
	for _, before := range []string{"", "n=;", "n=1;n=1;", "#", "n=" + long + ";"} {
		fails(t, api.ErrLong, "^"+before+strings.Repeat(" ", mostBytes+1-len(before)))
		fails(t, api.ErrLong, "^"+before+strings.Repeat("#", mostBytes+1-len(before)))
	}
	fails(t, api.ErrFull, strings.Repeat(";", mostTokens)+"^;")
	fails(t, api.ErrFull, "n=1;n=1;"+strings.Repeat(" n", mostTokens-8)+" ^n")
	fails(t, api.ErrLex, strings.Repeat(";", mostTokens-1)+"^#;;;")
	// As many as may be: then data's faults count.
	fails(t, api.ErrSyntax, "^"+strings.Repeat(";", mostTokens))
	fails(t, api.ErrSyntax, "n=[1 ^1"+strings.Repeat(" 1", mostTokens-5))
	fails(t, api.ErrSyntax, "n=^;"+strings.Repeat(" ", mostBytes-3))
}
