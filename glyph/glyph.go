// Package glyph is layer 1: signs of a source: see shared/doc/01-glyph.md.
package glyph

// Classes of bytes.
const (
	Other  = 0
	Space  = 1
	Digit  = 2
	Low    = 3
	High   = 4
	Sign   = 5
	Mark   = 6
	Quoted = 7
)

// Class: of a byte.
func Class(c byte) int {
	switch {
	case '0' <= c && c <= '9':
		return Digit
	case 'a' <= c && c <= 'z', c == '_':
		return Low
	case 'A' <= c && c <= 'Z':
		return High
	}
	switch c {
	case ' ', '\t', '\n', '\r':
		return Space
	case '+', '-', '*', '/', '%', '=', '<', '>', '|', '&', ':', '.', '\\', '!':
		return Sign
	case '(', ')', '[', ']', '{', '}', ',', ';':
		return Mark
	case '\'', '"':
		return Quoted
	}
	return Other
}
