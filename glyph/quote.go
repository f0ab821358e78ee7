package glyph

import "strings"

const (
	digits = "0123456789abcdef"

	// Bytes outside of these two have no sign that can be seen.
	firstSeen = 32
	lastSeen  = 126
)

// short: a byte, and the letter that stands for it behind a backslash.
type short struct{ c, letter byte }

// shorts: one table for both ways, so that what is escaped is always read back.
func shorts() [5]short {
	return [5]short{{'\n', 'n'}, {'\t', 't'}, {'\\', '\\'}, {'\'', '\''}, {'"', '"'}}
}

// letterOf: the letter that stands for a byte.
func letterOf(c byte) (byte, bool) {
	for _, x := range shorts() {
		if x.c == c {
			return x.letter, true
		}
	}
	return 0, false
}

// byteOf: the byte that a letter stands for.
func byteOf(letter byte) (byte, bool) {
	for _, x := range shorts() {
		if x.letter == letter {
			return x.c, true
		}
	}
	return 0, false
}

// Escape: a byte's escape within a quote.
func Escape(c byte, quote byte) string {
	return string(putEscape(nil, c, quote))
}

// putEscape: b with a byte's escape behind it.
func putEscape(b []byte, c, quote byte) []byte {
	if quote != '\'' {
		quote = '"'
	}
	// A quote ends only what it has begun, so that the other one needs no backslash.
	bare := Class(c) == Quoted && c != quote
	if letter, ok := letterOf(c); ok && !bare {
		return append(b, '\\', letter)
	}
	if c < firstSeen || c > lastSeen {
		return append(b, '\\', 'x', digits[c>>4], digits[c&15])
	}
	return append(b, c)
}

// Unescape: the byte that is escaped at a place, and the place behind its escape.
func Unescape(s string, at int) (c byte, next int, ok bool) {
	if at < 0 || at >= len(s) || s[at] < firstSeen || s[at] > lastSeen {
		return 0, at, false
	}
	if s[at] != '\\' {
		return s[at], at + 1, true
	}
	behind := s[at+1:]
	if behind == "" {
		return 0, at, false
	}
	if c, ok = byteOf(behind[0]); ok {
		return c, at + 2, true
	}
	if c, ok = hexOf(behind); ok {
		return c, at + 4, true
	}
	return 0, at, false
}

// hexOf: the byte that x and two digits tell, at the beginning of s.
func hexOf(s string) (byte, bool) {
	if len(s) < 3 || s[0] != 'x' {
		return 0, false
	}
	high, low := strings.IndexByte(digits, s[1]), strings.IndexByte(digits, s[2])
	if high < 0 || low < 0 {
		return 0, false
	}
	return byte(high<<4 | low), true
}

// Quote: a text in quotes.
func Quote(s string) string {
	b := []byte{'"'}
	for _, c := range []byte(s) {
		b = putEscape(b, c, '"')
	}
	return string(append(b, '"'))
}

// Unquote: the text that stands in quotes.
func Unquote(s string) (string, bool) {
	if len(s) < 2 || s[0] != '"' || s[len(s)-1] != '"' {
		return "", false
	}
	// The last quote is cut off first: a backslash ahead of it must not reach for it.
	inner := s[1 : len(s)-1]
	b := make([]byte, 0, len(inner))
	for at := 0; at < len(inner); {
		c, next, ok := Unescape(inner, at)
		if !ok || inner[at] == '"' {
			return "", false
		}
		b = append(b, c)
		at = next
	}
	return string(b), true
}
