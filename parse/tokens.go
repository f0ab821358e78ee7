package parse

import (
	"hammock/api"
	"hammock/token"
)

// tokens: of a source, up to the End or to the first fault.
type tokens struct {
	list  []token.Token
	next  int
	fault api.Fault
}

// here: the next token.
func (t *tokens) here() token.Token { return t.list[t.next] }

// take: the next token, which is behind then. It is never the End: what takes knows its token.
func (t *tokens) take() token.Token {
	x := t.here()
	t.next++
	return x
}

// fail: a fault at the next token. Behind it nothing is read: what reads on meets the End, which begins nothing.
func (t *tokens) fail(e api.Errno) {
	if t.fault.E == api.OK {
		t.fault = api.Fault{At: t.here().At, E: e}
	}
	t.next = len(t.list) - 1
}

// is: is the next token this word of the grammar? A Letter or a Text may quote the same bytes.
func (t *tokens) is(word string) bool {
	switch x := t.here(); x.Kind {
	case token.Op, token.Stop, token.Key:
		return x.Text == word
	}
	return false
}

// isName: is the next token a name, but _?
func (t *tokens) isName() bool { return t.here().Kind == token.Name && !t.isAny() }

// isAny: is the next token the _ that names nothing?
func (t *tokens) isAny() bool { return t.here().Kind == token.Name && t.here().Text == "_" }

// skip: takes this word, if it is next.
func (t *tokens) skip(word string) bool {
	if !t.is(word) {
		return false
	}
	t.next++
	return true
}

// want: takes this word, which must be next.
func (t *tokens) want(word string) { t.must(t.is(word)) }

// must: takes the next token, if it is as it must be.
func (t *tokens) must(right bool) token.Token {
	if !right {
		t.fail(api.ErrWord)
		return token.Token{}
	}
	return t.take()
}
