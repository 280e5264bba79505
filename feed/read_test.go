package feed_test

import (
	"strconv"
	"strings"
	"testing"

	"stepstone/api"
	"stepstone/feed"
)

// P14.1: the chapter's examples.
func TestExamples(t *testing.T) {
	reads(t, "n = 3; y = [1.5, -2];", "n@0 whole 3; y@7 [3/2 -2]")
	fails(t, api.ErrThere, "n = 3; ^n = 4;")
	fails(t, api.ErrSyntax, "n = ^;")
}

// P14.1: items of each kind.
func TestOrdinary(t *testing.T) {
	reads(t, `// how many
n = 3;
rate = 0.25; slope = -12; big = 1e3;
y = [1.5, -2, 3e-1]; // measured
k = [0, 1, 1];
none = [];
last=[-7];`, "n@12 whole 3; rate@19 1/4; slope@32 whole -12; big@45 1000; y@56 [3/2 -2 3/10]; k@89 whole [0 1 1]; none@104 whole []; last@115 whole [-7]")
}

// P14.1: texts without an item.
func TestEmpty(t *testing.T) {
	for _, s := range []string{"", " ", "\n", "\t \r\n ", "// x", "// n = 1;\n", " // n\n// m\n\n", strings.Repeat(" ", mostBytes), strings.Repeat("//\n", mostBytes/3)} {
		reads(t, s, "")
	}
}

// P14.1: values in [ ] and without.
func TestLists(t *testing.T) {
	reads(t, "n=1;", "n@0 whole 1")
	reads(t, "n=-1;", "n@0 whole -1")
	reads(t, "n=[];", "n@0 whole []")
	reads(t, "n=[1];", "n@0 whole [1]")
	reads(t, "n=[-1];", "n@0 whole [-1]")
	reads(t, "n=[1,2];", "n@0 whole [1 2]")
	reads(t, "n=[1,-2,3,-4,5];", "n@0 whole [1 -2 3 -4 5]")
	reads(t, "n=[-1,-1,-1];m=1;", "n@0 whole [-1 -1 -1]; m@13 whole 1")
	reads(t, "n=[];m=[];", "n@0 whole []; m@5 whole []")
}

// P14.1: what numbers come to: as their digits say, whole or not; 0 has no sign.
func TestNumbers(t *testing.T) {
	for _, x := range []struct{ text, number string }{
		{"0", "0"}, {"00", "0"}, {"7", "7"}, {"007", "7"}, {"100", "100"}, {"18446744073709551616", "18446744073709551616"},
		{"0.0", "0"}, {"0.5", "1/2"}, {"00.50", "1/2"}, {"1.0", "1"}, {"2.50", "5/2"}, {"12.125", "97/8"}, {"0.3", "3/10"},
		{"0e0", "0"}, {"0e9", "0"}, {"0e-9999", "0"}, {"1e0", "1"}, {"1e2", "100"}, {"1e+2", "100"}, {"1e-2", "1/100"}, {"1e0002", "100"}, {"20e-1", "2"}, {"100e-2", "1"},
		{"1.5e1", "15"}, {"12.50e-1", "5/4"}, {"0.04e+2", "4"}, {"2.5e3", "2500"}, {"1.0e-1", "1/10"},
		{"1e20", "1" + strings.Repeat("0", 20)}, {"1e9999", "1" + strings.Repeat("0", 9999)}, {"4e-100", "1/25" + strings.Repeat("0", 98)},
		{strings.Repeat("0", mostNumeral-1) + "9", "9"}, {"1." + strings.Repeat("0", mostNumeral-2), "1"}, {strings.Repeat("9", mostNumeral), strings.Repeat("9", mostNumeral)},
	} {
		sign := "-"
		if x.number == "0" {
			sign = ""
		}
		is := ""
		if !strings.ContainsAny(x.text, ".e") {
			is = " whole"
		}
		reads(t, "a="+x.text+";", "a@0"+is+" "+x.number)
		reads(t, "a=-"+x.text+";", "a@0"+is+" "+sign+x.number)
		reads(t, "a = - "+x.text+" ;", "a@0"+is+" "+sign+x.number)
		reads(t, "a=["+x.text+"];", "a@0"+is+" ["+x.number+"]")
		reads(t, "a=[-"+x.text+", "+x.text+"];", "a@0"+is+" ["+sign+x.number+" "+x.number+"]")
		reads(t, "a=[1,-"+x.text+",-2];", "a@0"+is+" [1 "+sign+x.number+" -2]")
		reads(t, "a=1;b="+x.text+";c=2;d=[];", "a@0 whole 1; b@4"+is+" "+x.number+"; c@"+strconv.Itoa(len(x.text)+7)+" whole 2; d@"+strconv.Itoa(len(x.text)+11)+" whole []")
	}
}

// P14.1: one number that has a dot or an e makes all of the value not Whole, wherever it is, and no other value.
func TestWhole(t *testing.T) {
	for _, text := range []string{"1.0", "1e0", "1e+0", "1e-0", "1.0e0", "0.0"} {
		for n := 1; n < 6; n++ {
			for at := range n {
				numbers := strings.Split(strings.TrimSuffix(strings.Repeat("3,", n), ","), ",")
				numbers[at] = text
				for _, sign := range []string{"", "-"} {
					l, f := feed.Read("b=[3,3];a=[" + sign + strings.Join(numbers, ","+sign) + "];c=3;")
					if f != (api.Fault{}) || len(l) != 3 || !l[0].Whole || l[1].Whole || !l[2].Whole {
						t.Errorf("%v: %s, %s", numbers, told(l), shownFault(f))
					}
				}
			}
		}
	}
	// What is whole by its value only is not.
	reads(t, "e=2;e1=3;f=[4];", "e@0 whole 2; e1@4 whole 3; f@9 whole [4]")
}

// P14.1: what may be a name.
func TestNames(t *testing.T) {
	for _, name := range []string{"a", "Z", "x1", "a_b", "a_", "e", "e1", "int_", "Int", "data1", "ins", "fors", "i", "Data", "targets", "print", "real2", "normal", "sum", strings.Repeat("x", 5000)} {
		reads(t, name+"=1;", name+"@0 whole 1")
		reads(t, "q=[1];"+name+" = [];", "q@0 whole [1]; "+name+"@6 whole []")
	}
	for _, word := range taken() {
		refuses(t, "^"+word+" = 1;", "n = 1; ^"+word+" = 2;", "^"+word)
	}
	refuses(t, "^1 = 1;", "^; = 1;", "^[ = 1;", "^- = 1;", "n = 1; ^1;", "n = 1; ^= 2;")
	// What has a _ ahead is no token.
	fails(t, api.ErrLex, "^_ = 1;")
	fails(t, api.ErrLex, "n = 1; ^_n = 1;")
}

// P14.1: a name may occur but once; one that only begins like it, or is written otherwise, is another one.
func TestSameNames(t *testing.T) {
	fails(t, api.ErrThere, "n=1;^n=1;")
	fails(t, api.ErrThere, "n=1;m=1;^n=[];")
	fails(t, api.ErrThere, "n=[];m=1;^m=1;n=1;")
	fails(t, api.ErrThere, "n=1;m=2;k=3;// n\n ^n // n\n=1;")
	reads(t, "n=1;nn=2;n1=3;n_=4;N=5;", "n@0 whole 1; nn@4 whole 2; n1@9 whole 3; n_@14 whole 4; N@19 whole 5")
	reads(t, "n1=1;n=2;", "n1@0 whole 1; n@5 whole 2")
	long := strings.Repeat("x", 4000)
	reads(t, long+"y=1;"+long+"z=1;"+long+"=1;", long+"y@0 whole 1; "+long+"z@4004 whole 1; "+long+"@8008 whole 1")
	fails(t, api.ErrThere, long+"y=1;"+long+"=1;^"+long+"y=1;")
	// It is told as soon as the name is there, whatever follows.
	for _, behind := range []string{"", "=", "=;", ";", " n", "=n", "=1", "=1;", "==", "=-", "=[", "=[1", "=[]", "]"} {
		fails(t, api.ErrThere, "n=1;m=[2];^n"+behind)
		fails(t, api.ErrThere, "n=1;m=[2];^m"+behind)
	}
}

// P14.1: a name that occurs before, where no name is to be, is ErrSyntax, as that comes first.
func TestNamesOutOfPlace(t *testing.T) {
	refuses(t, "n=1;m ^n", "n=1;m=^n;", "n=1;m=-^n", "n=1;m=[^n]", "n=1;m=[-^n]", "n=1;m=[1,^n]", "n=1;m=[1 ^n]", "n=1;m=[] ^n", "n=1;m=1 ^n=1;", "n ^n=1;", "n=^n;", "n=1;m=[1,-^n=1;")
}

// P14.1: many items, and many numbers, up to what layer 11 reads, and beyond that.
func TestMany(t *testing.T) {
	names := func(n int) (string, string) {
		var s, want []string
		at := 0
		for i := range n {
			name := "a" + strconv.Itoa(i)
			s = append(s, name+"=1;")
			want = append(want, name+"@"+strconv.Itoa(at)+" whole 1")
			at += len(name) + 3
		}
		return strings.Join(s, ""), strings.Join(want, "; ")
	}
	s, want := names(mostTokens / 4)
	reads(t, s, want)
	fails(t, api.ErrFull, s+"^b")
	fails(t, api.ErrFull, s+"^;")
	s, want = names(mostTokens/4 - 1)
	reads(t, s+"b=1;", want+"; b@"+strconv.Itoa(len(s))+" whole 1")
	fails(t, api.ErrFull, s+"b=-1^;")
	fails(t, api.ErrSyntax, s+"b=-^")
	fails(t, api.ErrSyntax, s+"b=1^")
	most := (mostTokens - 4) / 2
	ones := strings.TrimSuffix(strings.Repeat("1,", most), ",")
	reads(t, "y=["+ones+"];", "y@0 whole ["+strings.TrimSuffix(strings.Repeat("1 ", most), " ")+"]")
	fails(t, api.ErrFull, "y=["+ones+",1^];")
	fails(t, api.ErrFull, "y=["+ones+",-^1];")
	long := strings.Repeat("x", mostBytes-3)
	reads(t, long+"=1;", long+"@0 whole 1")
	fails(t, api.ErrLong, "^"+long+"=1; ")
	fails(t, api.ErrLong, "^"+long+"=1//")
}

// P14.1: places, with blanks, line feeds and comments ahead and between.
func TestPlaces(t *testing.T) {
	reads(t, " n=1;", "n@1 whole 1")
	reads(t, "\n\n n = 1 ;\n\tm\n=\n[\n1\n,\n-\n2\n]\n;\r\nk=[ ];", "n@3 whole 1; m@12 whole [1 -2]; k@31 whole []")
	reads(t, "// n = 1;\nn // x = 2;\n = // [\n 3 // ;\n; // m\n m = 4;// k", "n@10 whole 3; m@46 whole 4")
	reads(t, "n=1;m=2;  k=3;\r\n\r\nl=4;", "n@0 whole 1; m@4 whole 2; k@10 whole 3; l@18 whole 4")
	reads(t, "a//\n=1;", "a@0 whole 1")
	reads(t, "a=1;//", "a@0 whole 1")
	fails(t, api.ErrSyntax, "// n = ;\n n // = \n ^;")
	fails(t, api.ErrThere, "\n n = 1; // n\n\t ^n = 2;")
	fails(t, api.ErrSyntax, " n = 1 \n // ;\n^")
	fails(t, api.ErrSyntax, "n = // 1 ;^")
}

// R2, R3: what is beside a fault, and beside none.
func TestNothingBeside(t *testing.T) {
	for _, s := range []string{"n=1;n=2;", "n=1;m=[1,2", "n=1;m=2;;", "n=1;#", "n=1;m=" + strings.Repeat("1", mostNumeral+1) + ";", strings.Repeat(" ", mostBytes+1)} {
		if l, f := feed.Read(s); l != nil || f.E == api.OK {
			t.Errorf("Read(%s) = %s, %s", shown(s), told(l), shownFault(f))
		}
	}
}
