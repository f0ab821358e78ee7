package token

import (
	"strings"

	"hammock/api"
	"hammock/glyph"
)

const (
	lineNote = "--"
	noteHead = "{-"
	noteTail = "-}"
)

// skip: the place behind the Space or the note that stands at a place, or that place, if neither does; false of a note that is none.
func skip(s string, at int) (int, bool) {
	rest := s[at:]
	switch {
	case rest == "":
		return at, true
	case glyph.Class(rest[0]) == glyph.Space:
		return at + 1, true
	case strings.HasPrefix(rest, lineNote):
		if n := strings.IndexByte(rest, '\n'); n >= 0 {
			return at + n, true
		}
		return len(s), true
	case strings.HasPrefix(rest, noteHead):
		return skipNote(s, at)
	}
	return at, true
}

// skipNote: the place behind a note, in which others may stand.
func skipNote(s string, at int) (int, bool) {
	for deep := 0; at < len(s); {
		switch rest := s[at:]; {
		case strings.HasPrefix(rest, noteHead):
			deep++
			at += len(noteHead)
		case strings.HasPrefix(rest, noteTail):
			deep--
			at += len(noteTail)
		default:
			at++
		}
		if deep == 0 {
			return at, true
		}
		if deep > api.MaxDeep {
			return 0, false
		}
	}
	return 0, false
}
