package glyph

import (
	"strings"
	"testing"
)

// P103: Escape.

func TestEscapes(t *testing.T) {
	cases := []struct {
		c, quote byte
		want     string
	}{
		{'\n', '"', `\n`}, {'\t', '"', `\t`}, {'\\', '"', `\\`}, {'"', '"', `\"`}, {'\'', '"', `'`},
		{'\n', '\'', `\n`}, {'\t', '\'', `\t`}, {'\\', '\'', `\\`}, {'"', '\'', `"`}, {'\'', '\'', `\'`},
		{'"', 'q', `\"`}, {'\'', 'q', `'`}, {'"', 0, `\"`}, {'\'', 255, `'`}, {'q', 'q', `q`}, {'\\', '\\', `\\`}, {'\n', '\n', `\n`},
		{0, '"', `\x00`}, {'\r', '"', `\x0d`}, {31, '"', `\x1f`}, {32, '"', ` `}, {126, '"', `~`}, {127, '"', `\x7f`}, {128, '\'', `\x80`}, {0xab, '\'', `\xab`}, {255, '"', `\xff`},
		{'a', '"', `a`}, {'n', '"', `n`}, {'x', '\'', `x`}, {'0', '\'', `0`},
	}
	for _, x := range cases {
		if s := Escape(x.c, x.quote); s != x.want {
			t.Errorf("Escape(%q, %q): %s, not %s", x.c, x.quote, s, x.want)
		}
	}
}

func TestEscapeOfEveryByte(t *testing.T) {
	short := map[byte]string{'\n': `\n`, '\t': `\t`, '\\': `\\`}
	hex := "0123456789abcdef"
	for i := range 256 {
		for q := range 256 {
			c, quote := byte(i), byte('"')
			if q == '\'' {
				quote = '\''
			}
			want := string([]byte{c})
			if s, ok := short[c]; ok {
				want = s
			} else if c == quote {
				want = "\\" + want
			} else if c < 32 || c > 126 {
				want = "\\x" + hex[i/16:i/16+1] + hex[i%16:i%16+1]
			}
			if s := Escape(c, byte(q)); s != want {
				t.Errorf("Escape(%d, %d): %s, not %s", i, q, s, want)
			}
		}
	}
}

// P103: Unescape.

func TestUnescapes(t *testing.T) {
	cases := []struct {
		s    string
		at   int
		c    byte
		next int
		ok   bool
	}{
		{`a`, 0, 'a', 1, true}, {`abc`, 1, 'b', 2, true}, {` `, 0, ' ', 1, true}, {`~`, 0, '~', 1, true},
		{`'`, 0, '\'', 1, true}, {`"`, 0, '"', 1, true},
		{`\n`, 0, '\n', 2, true}, {`\t`, 0, '\t', 2, true}, {`\\`, 0, '\\', 2, true}, {`\'`, 0, '\'', 2, true}, {`\"`, 0, '"', 2, true},
		{`\n`, 1, 'n', 2, true}, {`\\n`, 0, '\\', 2, true}, {`\\n`, 1, '\n', 3, true},
		{`\x00`, 0, 0, 4, true}, {`\x41`, 0, 'A', 4, true}, {`\xff!`, 0, 255, 4, true}, {`\x0aa`, 0, 10, 4, true}, {`--\xa0`, 2, 160, 6, true},
		{`\x41`, 1, 'x', 2, true}, {`\xfF`, 0, 0, 0, false}, {`\xFf`, 0, 0, 0, false}, {`\x4`, 0, 0, 0, false}, {`\x`, 0, 0, 0, false},
		{`\xg0`, 0, 0, 0, false}, {`\x0g`, 0, 0, 0, false}, {`\X41`, 0, 0, 0, false}, {`\x 1`, 0, 0, 0, false},
		{`\`, 0, 0, 0, false}, {`ab\`, 2, 0, 2, false}, {`\q`, 0, 0, 0, false}, {`ab\q`, 2, 0, 2, false}, {`ab\x4`, 2, 0, 2, false}, {`\N`, 0, 0, 0, false}, {`\r`, 0, 0, 0, false}, {`\0`, 0, 0, 0, false}, {"\\\n", 0, 0, 0, false}, {"\\\x00", 0, 0, 0, false},
		{"\n", 0, 0, 0, false}, {"a\tb", 1, 0, 1, false}, {"\x1f", 0, 0, 0, false}, {"\x7f", 0, 0, 0, false}, {"a\x80", 1, 0, 1, false}, {"\xff", 0, 0, 0, false}, {"\x00", 0, 0, 0, false},
		{``, 0, 0, 0, false}, {`a`, 1, 0, 1, false}, {`a`, -1, 0, -1, false}, {`a`, 7, 0, 7, false},
	}
	for _, x := range cases {
		if c, next, ok := Unescape(x.s, x.at); c != x.c || next != x.next || ok != x.ok {
			t.Errorf("Unescape(%q, %d): %d, %d, %v", x.s, x.at, c, next, ok)
		}
	}
}

func TestEverythingBehindABackslash(t *testing.T) {
	short := map[byte]byte{'n': '\n', 't': '\t', '\\': '\\', '\'': '\'', '"': '"'}
	for i := range 256 {
		s := "\\" + string([]byte{byte(i)}) + "__"
		want, known := short[byte(i)]
		next := 0
		if known {
			next = 2
		}
		if c, n, ok := Unescape(s, 0); c != want || n != next || ok != known {
			t.Errorf("%q: %d, %d, %v", s, c, n, ok)
		}
	}
}

func TestEveryPairOfDigits(t *testing.T) {
	hex := "0123456789abcdef"
	for i := range 256 {
		for j := range 256 {
			s := "\\x" + string([]byte{byte(i), byte(j)})
			high, low := strings.IndexByte(hex, byte(i)), strings.IndexByte(hex, byte(j))
			var want byte
			next, known := 0, high >= 0 && low >= 0
			if known {
				want, next = byte(high*16+low), 4
			}
			if c, n, ok := Unescape(s, 0); c != want || n != next || ok != known {
				t.Errorf("%q: %d, %d, %v", s, c, n, ok)
			}
		}
	}
}

// P103: Quote and Unquote.

func TestQuotes(t *testing.T) {
	for s, want := range map[string]string{
		"":           `""`,
		"ab c":       `"ab c"`,
		"it's":       `"it's"`,
		"a\"b":       `"a\"b"`,
		"\\n\n\t\r":  `"\\n\n\t\x0d"`,
		"\x00\xff":   `"\x00\xff"`,
		"\xc3\xa4":   `"\xc3\xa4"`,
		"\"\"":       `"\"\""`,
		"x\x7f~\x80": `"x\x7f~\x80"`,
	} {
		if q := Quote(s); q != want {
			t.Errorf("Quote(%q): %s, not %s", s, q, want)
		}
	}
}

func TestQuoteIsItsEscapes(t *testing.T) {
	s := everyByte()
	want := `"`
	for i := range len(s) {
		want += Escape(s[i], '"')
	}
	if q := Quote(s); q != want+`"` {
		t.Error(q)
	}
}

func TestUnquotes(t *testing.T) {
	for q, want := range map[string]string{
		`""`: "", `"a"`: "a", `"it's"`: "it's", `"it\'s"`: "it's", `"a\"b"`: `a"b`, `"\\"`: `\`, `"\\\\"`: `\\`, `"\n\t"`: "\n\t", `"\x41\x00\xff"`: "A\x00\xff", `"\x41b"`: "Ab",
	} {
		if s, ok := Unquote(q); s != want || !ok {
			t.Errorf("Unquote(%s): %q, %v", q, s, ok)
		}
	}
}

func TestNoQuotes(t *testing.T) {
	for _, q := range []string{
		``, `"`, `a`, `ab`, `"a`, `a"`, `'a'`, `"a'`, `'a"`, `"a" `, ` "a"`, `"""`, `""""`, `"a"b"`,
		`"\"`, `"a\"`, `"\\\"`, `"\x"`, `"\x4"`, `"\x4g"`, `"\xAB"`, `"\q"`, "\"\n\"", "\"\t\"", "\"\x7f\"", "\"a\x80\"", "\"\xff\"",
	} {
		if s, ok := Unquote(q); s != "" || ok {
			t.Errorf("Unquote(%q): %q, %v", q, s, ok)
		}
	}
}

// unquoted: what Unquote should tell, told by cutting known escapes off the front.
func unquoted(q string) (string, bool) {
	if len(q) < 2 || !strings.HasPrefix(q, `"`) || !strings.HasSuffix(q, `"`) {
		return "", false
	}
	known := map[string]string{`\n`: "\n", `\"`: `"`, `\'`: "'", `\\`: `\`, `\x00`: "\x00", `n`: "n", `x`: "x", `0`: "0", `'`: "'"}
	rest, out := q[1:len(q)-1], ""
cut:
	for rest != "" {
		for escape, s := range known {
			if strings.HasPrefix(rest, escape) {
				rest, out = rest[len(escape):], out+s
				continue cut
			}
		}
		return "", false
	}
	return out, true
}

func TestUnquoteOfAllSmallTexts(t *testing.T) {
	found := 0
	for _, inner := range texts("\"\\nx0'\n", 6) {
		for _, q := range []string{inner, `"` + inner + `"`} {
			want, known := unquoted(q)
			if known {
				found++
			}
			if s, ok := Unquote(q); s != want || ok != known {
				t.Errorf("Unquote(%q): %q, %v, not %q, %v", q, s, ok, want, known)
			}
		}
	}
	if found < 1000 {
		t.Errorf("just %d texts in quotes", found)
	}
}

// P104: there and back.

func TestUnescapeOfEscape(t *testing.T) {
	for i := range 256 {
		for q := range 256 {
			for _, around := range [][2]string{{"", ""}, {"\\", "0"}, {"ab", "\"\\"}} {
				e := Escape(byte(i), byte(q))
				at := len(around[0])
				if c, next, ok := Unescape(around[0]+e+around[1], at); c != byte(i) || next != at+len(e) || !ok {
					t.Errorf("%d in %d: %d, %d, %v", i, q, c, next, ok)
				}
			}
		}
	}
}

func TestUnquoteOfQuote(t *testing.T) {
	long := strings.Repeat(everyByte(), 256)
	for _, s := range append(texts("\"\\nx'\n\xff", 5), everyByte(), long) {
		if u, ok := Unquote(Quote(s)); u != s || !ok {
			t.Errorf("%q: %q, %v", s, u, ok)
		}
	}
}
