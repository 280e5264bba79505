package feed

import "stepstone/api"

// tokens are those that are left. The last one has neither kind nor text, and is at the text's end: as it is not what has to be next, nothing takes it.
type tokens []api.Token

func (t tokens) next() api.Token { return t[0] }

func (t tokens) isDone() bool { return len(t) == 1 }

func (t tokens) is(text string) bool { return t.next().Text == text }

// take is for what is known to be next.
func (t *tokens) take() { *t = (*t)[1:] }

// try takes a token if it is there.
func (t *tokens) try(text string) bool {
	if !t.is(text) {
		return false
	}
	t.take()
	return true
}
