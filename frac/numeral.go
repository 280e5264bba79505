package frac

import (
	"strconv"

	"stepstone/api"
	"stepstone/zint"
)

const exponentDigits = 4

// position is how far a text has been read.
type position struct {
	text string
	at   int
}

func (p *position) ended() bool { return p.at == len(p.text) }

// take goes beyond the next byte if it is c.
func (p *position) take(c byte) bool {
	if p.ended() || p.text[p.at] != c {
		return false
	}
	p.at++
	return true
}

// digits goes beyond all digits that are next.
func (p *position) digits() string {
	from := p.at
	for !p.ended() && '0' <= p.text[p.at] && p.text[p.at] <= '9' {
		p.at++
	}
	return p.text[from:p.at]
}

// scanner reads the parts of a numeral; where one is not there the reading ends.
type scanner struct{ position }

// some needs at least one digit.
func (s *scanner) some() string {
	out := s.digits()
	if out == "" {
		panic(api.ErrForm)
	}
	return out
}

func (s *scanner) numeral() api.Frac {
	digits, places, exponent := s.some(), "", 0
	if s.take('.') {
		places = s.some()
	}
	if s.take('e') {
		exponent = s.exponent()
	}
	if !s.ended() {
		panic(api.ErrForm)
	}
	return scaled(must(zint.Parse(digits+places)), exponent-len(places))
}

func (s *scanner) exponent() int {
	below := s.take('-')
	if !below {
		s.take('+')
	}
	digits := s.some()
	n, err := strconv.Atoi(digits)
	if err != nil || len(digits) > exponentDigits {
		panic(api.ErrForm)
	}
	if below {
		return -n
	}
	return n
}

// scaled is m times 10 to the power of n.
func scaled(m api.Int, n int) api.Frac {
	return reduced(product(m, ten(max(n, 0))), ten(max(-n, 0)))
}

func ten(n int) api.Int { return must(zint.Pow(zint.Of(10), n)) }
