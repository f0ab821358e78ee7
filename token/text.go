package token

import (
	"strconv"
	"strings"

	"hammock/api"
	"hammock/glyph"
)

// Word: is it the text of a Name that Scan may tell?
func Word(s string) bool {
	if s == "" || len(s) > api.MaxName || glyph.Class(s[0]) != glyph.Low {
		return false
	}
	return nameEnd(s, 0) == len(s) && !isKey(s)
}

func isKey(s string) bool {
	switch s {
	case "case", "data", "else", "if", "in", "let", "of", "then":
		return true
	}
	return false
}

// Sign: is it an Op's text?
func Sign(s string) bool {
	switch s {
	case "+", "-", "*", "/", "%", "++",
		"==", "/=", "<", "<=", ">", ">=",
		"&&", "||",
		":", "=", "|", "->", "\\", "::", ".":
		return true
	}
	return false
}

// Show: a token as a source has it.
func Show(t Token) string {
	var b strings.Builder
	put(&b, t)
	return b.String()
}

// Join: tokens as a source has them, a blank between two.
func Join(l []Token) string {
	var b strings.Builder
	for i, t := range l {
		if i > 0 {
			b.WriteByte(' ')
		}
		put(&b, t)
	}
	return b.String()
}

// put: writes into a builder, so that what is told shares no memory with a token's Text.
func put(b *strings.Builder, t Token) {
	switch t.Kind {
	case Letter:
		b.WriteByte('\'')
		if len(t.Text) == 1 {
			b.WriteString(glyph.Escape(t.Text[0], '\''))
		}
		b.WriteByte('\'')
	case Text:
		b.WriteString(glyph.Quote(t.Text))
	case Number:
		b.WriteString(strconv.Itoa(max(t.N, 0)))
	case End:
	default:
		b.WriteString(t.Text)
	}
}
