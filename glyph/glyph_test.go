package glyph

import (
	"math"
	"strconv"
	"strings"
	"testing"
	"unsafe"
)

// texts: all texts of at most n bytes of an alphabet, so that no edge of a small text is left out.
func texts(alphabet string, n int) []string {
	all := []string{""}
	for from := 0; n > 0; n-- {
		to := len(all)
		for _, s := range all[from:to] {
			for i := range len(alphabet) {
				all = append(all, s+alphabet[i:i+1])
			}
		}
		from = to
	}
	return all
}

// everyByte: a text with each byte once.
func everyByte() string {
	b := make([]byte, 256)
	for i := range b {
		b[i] = byte(i)
	}
	return string(b)
}

// within: does some byte of a lie in the memory of s?
func within(a, s string) bool {
	if a == "" || s == "" {
		return false
	}
	from, at := uintptr(unsafe.Pointer(unsafe.StringData(s))), uintptr(unsafe.Pointer(unsafe.StringData(a)))
	return at < from+uintptr(len(s)) && from < at+uintptr(len(a))
}

// P101.

func TestAnyNumberIsAnswered(t *testing.T) {
	numbers := []int{math.MinInt, math.MinInt + 1, -1 << 32, -2, -1, 0, 1, 2, 3, 4, 5, 1 << 32, math.MaxInt - 1, math.MaxInt}
	for _, s := range []string{"", "\n", "a", "ab\nc", "\\", "\\x", "\\x1", "\"", "\"\\\"", everyByte()} {
		for _, n := range numbers {
			if line, column := Place(s, n); (n < 0 || n > len(s)) && (line != 0 || column != 0) {
				t.Errorf("Place(%q, %d): %d, %d", s, n, line, column)
			}
			if text, ok := Line(s, n); !ok && text != "" || ok && (n < 1 || n > len(s)+1) {
				t.Errorf("Line(%q, %d): %q, %v", s, n, text, ok)
			}
			if c, next, ok := Unescape(s, n); !ok && (c != 0 || next != n) || ok && (n < 0 || n >= len(s)) {
				t.Errorf("Unescape(%q, %d): %d, %d, %v", s, n, c, next, ok)
			}
			for _, m := range numbers {
				if at, ok := Offset(s, n, m); !ok && at != 0 || ok && (at < 0 || at > len(s)) {
					t.Errorf("Offset(%q, %d, %d): %d, %v", s, n, m, at, ok)
				}
			}
		}
	}
}

func TestSameAnswerTwice(t *testing.T) {
	all := texts("a\n\\\"x", 3)
	var first []string
	for round := range 2 {
		for i, s := range all {
			u, ok := Unquote(s)
			answer := strings.Join([]string{Quote(s), u, strconv.FormatBool(ok)}, "|")
			if round == 0 {
				first = append(first, answer)
			} else if first[i] != answer {
				t.Errorf("%q: %s, then %s", s, first[i], answer)
			}
		}
	}
}

func TestAnswersAreNewMemory(t *testing.T) {
	s := "abc\ndef\nghi"
	for n := 1; n <= 3; n++ {
		if text, _ := Line(s, n); within(text, s) {
			t.Errorf("line %d shares memory", n)
		}
		one, _ := Line(s, n)
		if two, _ := Line(s, n); within(one, two) {
			t.Errorf("two answers of line %d share memory", n)
		}
	}
	one := "a line without its end"
	if whole, _ := Line(one, 1); whole != one || within(whole, one) {
		t.Error("a text of one line shares memory")
	}
	q := Quote(s)
	if u, _ := Unquote(q); within(u, q) || within(q, s) {
		t.Error("quotes share memory")
	}
}

// P102: Class.

func TestConstants(t *testing.T) {
	for want, n := range []int{Other, Space, Digit, Low, High, Sign, Mark, Quoted} {
		if n != want {
			t.Errorf("%d, not %d", n, want)
		}
	}
}

func TestClassOfEveryByte(t *testing.T) {
	lists := [8]string{
		Space:  " \t\n\r",
		Digit:  "0123456789",
		Low:    "abcdefghijklmnopqrstuvwxyz_",
		High:   "ABCDEFGHIJKLMNOPQRSTUVWXYZ",
		Sign:   "+-*/%=<>|&:.\\!",
		Mark:   "()[]{},;",
		Quoted: "'\"",
	}
	for i := range 256 {
		want := Other
		for class, list := range lists {
			if strings.IndexByte(list, byte(i)) >= 0 {
				want = class
			}
		}
		if n := Class(byte(i)); n != want {
			t.Errorf("%q: %d, not %d", rune(i), n, want)
		}
	}
	for _, c := range []byte("#$@?^`~\x00\v\f\x1f\x7f\x80\xa0\xff") {
		if n := Class(c); n != Other {
			t.Errorf("%d: %d", c, n)
		}
	}
}

// P102: places.

func TestPlaces(t *testing.T) {
	cases := []struct {
		s            string
		at           int
		line, column int
	}{
		{"ab\nc", 0, 1, 1}, {"ab\nc", 1, 1, 2}, {"ab\nc", 2, 1, 3}, {"ab\nc", 3, 2, 1}, {"ab\nc", 4, 2, 2},
		{"ab\nc", 5, 0, 0}, {"ab\nc", -1, 0, 0},
		{"", 0, 1, 1}, {"", 1, 0, 0}, {"", -1, 0, 0},
		{"\n", 0, 1, 1}, {"\n", 1, 2, 1}, {"\n", 2, 0, 0},
		{"a\n\nb\n", 2, 2, 1}, {"a\n\nb\n", 4, 3, 2}, {"a\n\nb\n", 5, 4, 1},
		{"a\rb", 2, 1, 3}, {"\xc3\xa4\t.", 3, 1, 4},
	}
	for _, x := range cases {
		if line, column := Place(x.s, x.at); line != x.line || column != x.column {
			t.Errorf("Place(%q, %d): %d, %d", x.s, x.at, line, column)
		}
	}
}

func TestOffsets(t *testing.T) {
	cases := []struct {
		s            string
		line, column int
		at           int
		ok           bool
	}{
		{"ab\nc", 1, 1, 0, true}, {"ab\nc", 1, 3, 2, true}, {"ab\nc", 1, 4, 0, false}, {"ab\nc", 1, 0, 0, false},
		{"ab\nc", 2, 1, 3, true}, {"ab\nc", 2, 2, 4, true}, {"ab\nc", 2, 3, 0, false}, {"ab\nc", 2, 0, 0, false},
		{"ab\nc", 2, -1, 0, false}, {"ab\nc", 3, 1, 0, false}, {"ab\nc", 0, 1, 0, false}, {"ab\nc", -1, 1, 0, false},
		{"", 1, 1, 0, true}, {"", 1, 2, 0, false}, {"", 2, 1, 0, false},
		{"\n", 1, 1, 0, true}, {"\n", 1, 2, 0, false}, {"\n", 2, 1, 1, true}, {"\n", 2, 2, 0, false}, {"\n", 3, 1, 0, false},
		{"ab\nc", 2, math.MaxInt, 0, false}, {"ab\nc", math.MaxInt, 1, 0, false}, {"ab\nc", 2, math.MinInt, 0, false},
	}
	for _, x := range cases {
		if at, ok := Offset(x.s, x.line, x.column); at != x.at || ok != x.ok {
			t.Errorf("Offset(%q, %d, %d): %d, %v", x.s, x.line, x.column, at, ok)
		}
	}
}

func TestLines(t *testing.T) {
	cases := []struct {
		s    string
		line int
		text string
		ok   bool
	}{
		{"ab\n\nc", 1, "ab", true}, {"ab\n\nc", 2, "", true}, {"ab\n\nc", 3, "c", true}, {"ab\n\nc", 4, "", false},
		{"ab\n\nc", 0, "", false}, {"ab\n\nc", -1, "", false}, {"ab\n\nc", math.MinInt, "", false}, {"ab\n\nc", math.MaxInt, "", false},
		{"", 1, "", true}, {"", 2, "", false}, {"a\n", 1, "a", true}, {"a\n", 2, "", true}, {"a\n", 3, "", false},
		{"a\r\nb", 1, "a\r", true}, {"\x00\xff\n", 1, "\x00\xff", true},
	}
	for _, x := range cases {
		if text, ok := Line(x.s, x.line); text != x.text || ok != x.ok {
			t.Errorf("Line(%q, %d): %q, %v", x.s, x.line, text, ok)
		}
	}
}

func TestPlacesCountedOneByOne(t *testing.T) {
	for _, s := range texts("a\n\r", 6) {
		line, column := 1, 1
		for at := 0; at <= len(s); at++ {
			if l, c := Place(s, at); l != line || c != column {
				t.Errorf("Place(%q, %d): %d, %d, not %d, %d", s, at, l, c, line, column)
			}
			column++
			if at < len(s) && s[at] == '\n' {
				line, column = line+1, 1
			}
		}
	}
}

// P104: Offset of Place.

func TestOffsetOfPlace(t *testing.T) {
	for _, s := range texts("a\n\r", 6) {
		places := 0
		for line := -1; line <= len(s)+2; line++ {
			for column := -1; column <= len(s)+2; column++ {
				at, ok := Offset(s, line, column)
				if !ok {
					continue
				}
				places++
				if l, c := Place(s, at); l != line || c != column {
					t.Errorf("%q: place %d is %d, %d, not %d, %d", s, at, l, c, line, column)
				}
			}
		}
		if places != len(s)+1 {
			t.Errorf("%q has %d places", s, places)
		}
		for at := 0; at <= len(s); at++ {
			line, column := Place(s, at)
			if n, ok := Offset(s, line, column); n != at || !ok {
				t.Errorf("%q: %d, %v of %d", s, n, ok, at)
			}
		}
	}
}

// P105.

func TestLinesAreTheText(t *testing.T) {
	for _, s := range append(texts("a\n\r", 6), everyByte(), strings.Repeat("ab\n", 1000)) {
		var lines []string
		for n := 1; ; n++ {
			line, ok := Line(s, n)
			if !ok {
				break
			}
			if strings.Contains(line, "\n") {
				t.Errorf("%q: line %d has a line feed", s, n)
			}
			lines = append(lines, line)
		}
		if got := strings.Join(lines, "\n"); got != s || len(lines) == 0 {
			t.Errorf("%q, not %q", got, s)
		}
	}
}
