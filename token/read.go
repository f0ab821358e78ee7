package token

import (
	"strconv"
	"strings"

	"hammock/api"
	"hammock/glyph"
)

// longestOp: no Op has more bytes.
const longestOp = 2

// read: the token that begins at a place, the End at the source's; with a fault just its place.
func read(s string, at int) (Token, api.Errno) {
	if at == len(s) {
		return Token{Kind: End, At: at, End: at}, api.OK
	}
	switch glyph.Class(s[at]) {
	case glyph.Low, glyph.High:
		return readName(s, at)
	case glyph.Digit:
		return readNumber(s, at)
	case glyph.Quoted:
		return readQuoted(s, at)
	case glyph.Sign:
		return readOp(s, at)
	case glyph.Mark:
		return plain(Stop, s, at, at+1), api.OK
	}
	return fault(at, api.ErrSign)
}

// fault: no token, but the place where one should be.
func fault(at int, e api.Errno) (Token, api.Errno) {
	return Token{At: at}, e
}

// plain: a token whose text is its bytes.
func plain(kind int, s string, at, end int) Token {
	// A piece of s would share memory with it.
	return Token{Kind: kind, At: at, End: end, Text: strings.Clone(s[at:end])}
}

func readName(s string, at int) (Token, api.Errno) {
	// A name takes all Digits that it meets, so the one ahead of it ends a Number.
	if at > 0 && glyph.Class(s[at-1]) == glyph.Digit {
		return fault(at, api.ErrSign)
	}
	end := nameEnd(s, at)
	if end-at > api.MaxName {
		return fault(at, api.ErrSize)
	}
	return plain(nameKind(s[at:end]), s, at, end), api.OK
}

// nameEnd: the place behind the bytes that may follow in a name.
func nameEnd(s string, at int) int {
	for at < len(s) && inName(s[at]) {
		at++
	}
	return at
}

func inName(c byte) bool {
	switch glyph.Class(c) {
	case glyph.Low, glyph.High, glyph.Digit:
		return true
	}
	return c == '\''
}

func nameKind(s string) int {
	switch {
	case isKey(s):
		return Key
	case glyph.Class(s[0]) == glyph.High:
		return Con
	}
	return Name
}

func readNumber(s string, at int) (Token, api.Errno) {
	end := at
	for end < len(s) && glyph.Class(s[end]) == glyph.Digit {
		end++
	}
	n, err := strconv.Atoi(s[at:end])
	if err != nil {
		return fault(at, api.ErrNumber)
	}
	t := plain(Number, s, at, end)
	t.N = n
	return t, api.OK
}

// readQuoted: a Letter or a Text.
func readQuoted(s string, at int) (Token, api.Errno) {
	kind, most := Text, api.MaxText
	if s[at] == '\'' {
		kind, most = Letter, 1
	}
	text, end, ok := unquote(s, at, most)
	if !ok || kind == Letter && text == "" {
		return fault(at, api.ErrQuote)
	}
	t := Token{Kind: kind, At: at, End: end, Text: text}
	if kind == Letter {
		t.N = int(text[0])
	}
	return t, api.OK
}

// unquote: the bytes between the quote at a place and the next bare one, and the place behind that; false of more than most bytes.
func unquote(s string, at, most int) (text string, end int, ok bool) {
	quote := s[at]
	var b strings.Builder
	for at++; at < len(s) && s[at] != quote; {
		c, next, ok := glyph.Unescape(s, at)
		if !ok || b.Len() == most {
			return "", 0, false
		}
		b.WriteByte(c)
		at = next
	}
	if at == len(s) {
		return "", 0, false
	}
	return b.String(), at + 1, true
}

func readOp(s string, at int) (Token, api.Errno) {
	for n := min(longestOp, len(s)-at); n > 0; n-- {
		if Sign(s[at : at+n]) {
			return plain(Op, s, at, at+n), api.OK
		}
	}
	return fault(at, api.ErrSign)
}
