package token

import (
	"iter"
	"strings"

	"stepstone/api"
)

// none is the kind of what is no token.
const none uint8 = 0

// exponentDigits is how many digits an exponent has, at most.
const exponentDigits = 4

// signs are in the order in which they are looked for: one that another one begins with comes behind that.
var signs = [...]string{"==", "!=", "<=", ">=", "+=", "{", "}", "[", "]", "(", ")", "<", ">", "=", "+", "-", "*", "/", "~", ",", ";", ":"}

// tokens produces what is at one place after the other: a token, or, where there is none, what has no kind. It does not go on from there, nor end: whoever comes to that has to leave.
func tokens(s string) iter.Seq[api.Token] {
	return func(yield func(t api.Token) bool) {
		for left := rest(s).trimmed(); left != ""; {
			kind, n := left.token()
			// A clone: a result is new memory, so a short piece does not keep all of a long source.
			text := strings.Clone(string(left[:n]))
			if !yield(api.Token{Kind: kind, Text: text, At: len(s) - len(left)}) {
				return
			}
			left = left[n:].trimmed()
		}
	}
}

// rest is what is left of a source.
type rest string

// trimmed is the rest without the blanks and comments that it begins with.
func (r rest) trimmed() rest {
	for {
		switch {
		case isBlank(r.byteAt(0)):
			r = r[1:]
		case strings.HasPrefix(string(r), "//"):
			r = r.nextLine()
		default:
			return r
		}
	}
}

// nextLine is what is behind the next line feed: nothing if there is none.
func (r rest) nextLine() rest {
	_, behind, _ := strings.Cut(string(r), "\n")
	return rest(behind)
}

// token is the kind, and the length, of the token that the rest begins with.
func (r rest) token() (uint8, int) {
	// In the order of their kinds.
	lengths := [...]func(rest) int{rest.name, rest.number, rest.sign}
	for i, length := range lengths {
		if n := length(r); n > 0 {
			return api.TkName + uint8(i), n
		}
	}
	return none, 0
}

// name is the length of the name that the rest begins with, 0 if it does not begin with one.
func (r rest) name() int {
	if !isLetter(r.byteAt(0)) || r.byteAt(0) == '_' {
		return 0
	}
	n := 1
	for isLetter(r.byteAt(n)) || isDigit(r.byteAt(n)) {
		n++
	}
	return n
}

// number is the length of the number that the rest begins with, 0 if it does not begin with one, or that is at fault.
func (r rest) number() int {
	n := r.digitsEnd(0)
	if n == 0 {
		return 0
	}
	if r.byteAt(n) == '.' && isDigit(r.byteAt(n+1)) {
		n = r.digitsEnd(n + 1)
	}
	if digits := r.exponent(n); digits > 0 {
		end := r.digitsEnd(digits)
		if end-digits > exponentDigits {
			return 0
		}
		n = end
	}
	if isLetter(r.byteAt(n)) || r.byteAt(n) == '.' {
		return 0
	}
	return n
}

// exponent is where the digits are of the exponent that is at a place, 0 if there is none.
func (r rest) exponent(at int) int {
	if r.byteAt(at) != 'e' {
		return 0
	}
	at++
	if r.byteAt(at) == '+' || r.byteAt(at) == '-' {
		at++
	}
	if !isDigit(r.byteAt(at)) {
		return 0
	}
	return at
}

// sign is the length of the sign that the rest begins with, 0 if it does not begin with one.
func (r rest) sign() int {
	for _, sign := range signs {
		if strings.HasPrefix(string(r), sign) {
			return len(sign)
		}
	}
	return 0
}

// digitsEnd is where the digits that are at a place end: there, if there are none.
func (r rest) digitsEnd(at int) int {
	for isDigit(r.byteAt(at)) {
		at++
	}
	return at
}

// byteAt is 0, which no token has, behind the end.
func (r rest) byteAt(at int) byte {
	if at >= len(r) {
		return 0
	}
	return r[at]
}

func isLetter(b byte) bool {
	return 'a' <= b && b <= 'z' || 'A' <= b && b <= 'Z' || b == '_'
}

func isDigit(b byte) bool { return '0' <= b && b <= '9' }

func isBlank(b byte) bool { return b == ' ' || b == '\t' || b == '\n' || b == '\r' }
