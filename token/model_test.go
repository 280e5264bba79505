package token_test

import (
	"regexp"
	"testing"

	"stepstone/api"
	"stepstone/token"
)

// model finds tokens by expressions, of which the library finds the matches: the chapter's words, written in another way.
type model struct{ gap, name, number, behind, sign *regexp.Regexp }

func newModel() *model {
	return &model{
		gap:    regexp.MustCompile(`^(?:[ \t\n\r]|//[^\n]*(?:\n|$))*`),
		name:   regexp.MustCompile(`^[[:alpha:]]\w*`),
		number: regexp.MustCompile(`^\d+(?:\.\d+)?(?:e[+-]?(\d+))?`),
		behind: regexp.MustCompile(`^[.\w]`),
		sign:   regexp.MustCompile(`^(?:[=!<>+]=|[][{}()<>=+*/~,;:-])`),
	}
}

func (m *model) read(s string) ([]api.Token, api.Fault) {
	if len(s) > mostBytes {
		return nil, api.Fault{E: api.ErrLong}
	}
	var out []api.Token
	for at := 0; ; at += len(out[len(out)-1].Text) {
		at += len(m.gap.FindString(s[at:]))
		if at == len(s) {
			return out, api.Fault{}
		}
		kind, text := m.token(s[at:])
		if text == "" {
			return nil, api.Fault{E: api.ErrLex, At: at}
		}
		if len(out) == mostTokens {
			return nil, api.Fault{E: api.ErrFull, At: at}
		}
		out = append(out, api.Token{Kind: kind, Text: text, At: at})
	}
}

func (m *model) token(s string) (uint8, string) {
	if text := m.name.FindString(s); text != "" {
		return api.TkName, text
	}
	if parts := m.number.FindStringSubmatch(s); parts != nil {
		if len(parts[1]) > 4 || m.behind.MatchString(s[len(parts[0]):]) {
			return 0, ""
		}
		return api.TkNumber, parts[0]
	}
	return api.TkSign, m.sign.FindString(s)
}

// check holds what Read returns against the model, and against the laws, and returns the tokens.
func (m *model) check(t *testing.T, s string) []api.Token {
	t.Helper()
	want, fault := m.read(s)
	l, f := token.Read(s)
	if f != fault || written(l) != written(want) {
		t.Errorf("Read(%s) = %s, %s, want %s, %s", shown(s), shown(written(l)), shownFault(f), shown(written(want)), shownFault(fault))
		return nil
	}
	if f.E == api.OK {
		lawful(t, s, l)
	}
	return l
}
