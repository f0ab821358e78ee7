package glyph

import "strings"

// Place: the line and the column of the byte at a place; 0, 0 if there is no such place.
func Place(s string, at int) (line, column int) {
	if at < 0 || at > len(s) {
		return 0, 0
	}
	ahead := s[:at]
	// LastIndexByte answers -1 in the first line, so that its columns count from 1 on, too.
	return strings.Count(ahead, "\n") + 1, at - strings.LastIndexByte(ahead, '\n')
}

// Offset: the place of that line and column.
func Offset(s string, line, column int) (int, bool) {
	from, to, ok := span(s, line)
	// The column behind the line's text is its line feed's, and in the last line the text's end.
	if !ok || column < 1 || column > to-from+1 {
		return 0, false
	}
	return from + column - 1, true
}

// Line: a line without its line feed.
func Line(s string, line int) (string, bool) {
	from, to, ok := span(s, line)
	if !ok {
		return "", false
	}
	// A piece of s would share memory with it.
	return strings.Clone(s[from:to]), true
}

// span: where a line begins, and where its text ends, ahead of its line feed.
func span(s string, line int) (from, to int, ok bool) {
	if line < 1 {
		return 0, 0, false
	}
	for ; line > 1; line-- {
		n := strings.IndexByte(s[from:], '\n')
		if n < 0 {
			return 0, 0, false
		}
		from += n + 1
	}
	n := strings.IndexByte(s[from:], '\n')
	if n < 0 {
		return from, len(s), true
	}
	return from, from + n, true
}
