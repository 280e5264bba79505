package nat

import (
	"slices"

	"stepstone/api"
)

// A group is as many digits as a limb can always hold.
const (
	groupDigits = 19
	groupTop    = 1e19
	// Each group takes off more than this number of bits.
	groupBits  = 63
	mostDigits = 40000
)

func Text(a api.Nat) string {
	a = trim(a)
	switch {
	case tooLong(a):
		return ""
	case len(a) == 0:
		return "0"
	}
	rest := slices.Clone(a)
	room := make([]byte, groupDigits*(limbBits*len(a)/groupBits+1))
	at := len(room)
	for len(rest) > 0 {
		n := divideByLimb(rest, groupTop)
		rest = trim(rest)
		// The third index holds a group back from the digits that it is put in front of.
		fill(room[at-groupDigits:at:at], n)
		at -= groupDigits
	}
	for room[at] == '0' {
		at++
	}
	return string(room[at:])
}

// fill writes a number's last digits, as many as there is room for.
func fill(room []byte, n uint64) {
	for i := range room {
		room[len(room)-1-i] = '0' + byte(n%10)
		n /= 10
	}
}

func Parse(s string) (api.Nat, api.Errno) {
	n := countDigits(s)
	switch {
	case n > mostDigits:
		return nil, api.ErrLong
	case n == 0 || n < len(s):
		return nil, api.ErrForm
	}
	return result(fromDigits(s))
}

func countDigits(s string) int {
	n := 0
	for i := range len(s) {
		if '0' <= s[i] && s[i] <= '9' {
			n++
		}
	}
	return n
}

func fromDigits(s string) api.Nat {
	out := make(api.Nat, 0, len(s)/groupDigits+1)
	for len(s) > 0 {
		// The first group is the one that may be shorter.
		n := (len(s)-1)%groupDigits + 1
		out = appendGroup(out, s[:n])
		s = s[n:]
	}
	return out
}

// appendGroup puts a group of digits behind those that make a.
func appendGroup(a api.Nat, digits string) api.Nat {
	n := uint64(0)
	for i := range len(digits) {
		n = 10*n + uint64(digits[i]-'0')
	}
	// Each limb is read ahead of being written, so a can be added to itself.
	a = append(a, addTimes(a, a, groupTop-1))
	add(a, Of(n))
	return trim(a)
}
