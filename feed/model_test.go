package feed_test

import (
	"math/big"
	"regexp"
	"slices"
	"sort"
	"strconv"
	"strings"
	"testing"

	"stepstone/api"
	"stepstone/feed"
	"stepstone/token"
)

// model reads data in another way: a letter stands for each token, and a regular expression tells which letters are data. How data may end tells which are the beginning of some.
type model struct {
	data *regexp.Regexp
	ends []string
}

func newModel() *model {
	signed := "-?#"
	value := "(" + signed + `|\[(` + signed + "(," + signed + `)*)?\])`
	return &model{
		data: regexp.MustCompile("^(n=" + value + ";)*$"),
		ends: []string{"", ";", "#;", "=#;", "];", "#];"},
	}
}

// letters has one byte for each token.
func letters(l []api.Token) string {
	var out strings.Builder
	for _, x := range l {
		switch {
		case x.Kind == api.TkName && !slices.Contains(taken(), x.Text):
			out.WriteByte('n')
		case x.Kind == api.TkNumber:
			out.WriteByte('#')
		case x.Kind == api.TkSign && strings.Contains("= - [ ] , ;", x.Text):
			out.WriteString(x.Text)
		default:
			out.WriteByte('x')
		}
	}
	return out.String()
}

func (m *model) begins(s string) bool {
	return slices.ContainsFunc(m.ends, func(end string) bool { return m.data.MatchString(s + end) })
}

// wrong is which letter is the first one at which letters are not the beginning of data: how many there are, if they are.
func (m *model) wrong(s string) int {
	return sort.Search(len(s), func(i int) bool { return !m.begins(s[:i+1]) })
}

// fault is that of data whose tokens these are.
func (m *model) fault(l []api.Token, end int) api.Fault {
	s := letters(l)
	wrong := m.wrong(s)
	for i, x := range l[:wrong] {
		isThere := slices.ContainsFunc(l[:i], func(y api.Token) bool { return y.Text == x.Text })
		switch {
		case s[i] == 'n' && isThere:
			return api.Fault{E: api.ErrThere, At: x.At}
		case s[i] == '#' && len(x.Text) > mostNumeral:
			return api.Fault{E: api.ErrLong, At: x.At}
		}
	}
	switch {
	case wrong < len(l):
		return api.Fault{E: api.ErrSyntax, At: l[wrong].At}
	case !m.data.MatchString(s):
		return api.Fault{E: api.ErrSyntax, At: end}
	}
	return api.Fault{}
}

// number is a numeral's value, as a text.
func number(text, sign string) string {
	mantissa, exponent, _ := strings.Cut(text, "e")
	before, behind, _ := strings.Cut(mantissa, ".")
	n, _ := new(big.Int).SetString(sign+before+behind, 10)
	d := big.NewInt(1)
	power, _ := strconv.Atoi(exponent)
	power -= len(behind)
	ten := new(big.Int).Exp(big.NewInt(10), big.NewInt(int64(max(power, -power))), nil)
	if power > 0 {
		n.Mul(n, ten)
	} else {
		d = ten
	}
	return new(big.Rat).SetFrac(n, d).RatString()
}

// items are those of tokens that are data, as a text.
func items(l []api.Token) string {
	digits := regexp.MustCompile("^[0-9]+$")
	var out []string
	for len(l) > 0 {
		end := slices.IndexFunc(l, func(x api.Token) bool { return x.Text == ";" })
		whole, isList := " whole", l[2].Text == "["
		var numbers []string
		for i, x := range l[:end] {
			if x.Kind != api.TkNumber {
				continue
			}
			if !digits.MatchString(x.Text) {
				whole = ""
			}
			sign := ""
			if l[i-1].Text == "-" {
				sign = "-"
			}
			numbers = append(numbers, number(x.Text, sign))
		}
		value := strings.Join(numbers, " ")
		if isList {
			value = "[" + value + "]"
		}
		out = append(out, l[0].Text+"@"+strconv.Itoa(l[0].At)+whole+" "+value)
		l = l[end+1:]
	}
	return strings.Join(out, "; ")
}

// check holds what a text is read as against the model, and returns its fault.
func (m *model) check(t *testing.T, s string) api.Fault {
	t.Helper()
	l, f := token.Read(s)
	want := ""
	if f.E == api.OK {
		f = m.fault(l, len(s))
	}
	if f.E == api.OK {
		want = items(l)
	}
	got, fault := feed.Read(s)
	if fault != f || told(got) != want {
		t.Errorf("Read(%s) = %s, %s, want %s, %s", shown(s), shown(told(got)), shownFault(fault), shown(want), shownFault(f))
	}
	return f
}

// written is how items are written, in another way: by the library's numbers.
func written(l []api.Datum) string {
	var out strings.Builder
	for _, d := range l {
		var numbers []string
		for _, x := range d.Nums {
			numbers = append(numbers, new(big.Rat).SetFrac(bigOf(x.N), bigOfNat(x.D)).RatString())
		}
		value := strings.Join(numbers, ",")
		if d.List {
			value = "[" + value + "]"
		}
		out.WriteString(d.Name + "=" + value + ";\n")
	}
	return out.String()
}
