package token

import (
	"math/rand"
	"regexp"
	"strings"
	"unsafe"

	"hammock/api"
)

// texts: all texts of at most n bytes of an alphabet, so that no edge of a small text is left out.
func texts(alphabet string, n int) []string {
	all := []string{""}
	for from := 0; n > 0; n-- {
		to := len(all)
		for _, s := range all[from:to] {
			for i := range len(alphabet) {
				all = append(all, s+alphabet[i:i+1])
			}
		}
		from = to
	}
	return all
}

// smallTexts: all small texts of bytes that have to do with each other.
func smallTexts() []string {
	var all []string
	for _, x := range []struct {
		alphabet string
		n        int
	}{
		{"{-}\n1", 7},
		{"aB1_' ", 5},
		{"'\"\\nx0\n", 5},
		{"+-*/%=<>|&:.\\!", 3},
		{"-=<>|&:+/", 4},
		{"()[]{},;a", 3},
		{"a1 #\x00\x80\xff\r", 4},
	} {
		all = append(all, texts(x.alphabet, x.n)...)
	}
	return all
}

// longTexts: texts put together at random, always the same ones, mostly of what may stand in a source.
func longTexts(n int) []string {
	pieces := []string{
		"a", "x'", "foo_1'", "_", "let", "in", "of", "if", "then", "else", "case", "data", "let'", "inn",
		"A", "Con_2'", "Let", "0", "7", "007", "42", "9223372036854775807", "'a'", "'\\''", "'\"'", "'\\n'", "'\\x41'", "'\\xff'",
		"\"\"", "\"a b\"", "\"it's\"", "\"\\\"\\\\\"", "\"\\x00\\n\\t\"", "\"--\"", "\"{-\"",
		"+", "-", "*", "/", "%", "==", "/=", "<", "<=", ">", ">=", "&&", "||", ":", "++", "=", "|", "->", "\\", "::", ".",
		"(", ")", "[", "]", "{", "}", ",", ";", " ", "  ", "\n", "\t", "\r", "-- note ' \" {-\n", "--\n", "{--}", "{- a {- ' -} -- b -}",
	}
	wrong := []string{"!", "&", "#", "\x00", "\xff", "'", "\"", "''", "{-", "9223372036854775808", strings.Repeat("n", api.MaxName+1)}
	random := rand.New(rand.NewSource(1))
	all := make([]string, n)
	for i := range all {
		var b strings.Builder
		for range random.Intn(40) {
			b.WriteString(pieces[random.Intn(len(pieces))])
			if random.Intn(3) > 0 {
				b.WriteString(" ")
			}
			if random.Intn(200) == 0 {
				b.WriteString(wrong[random.Intn(len(wrong))])
			}
		}
		all[i] = b.String()
	}
	return all
}

var (
	modelBytes  = `(?s-i)`
	modelSpaces = regexp.MustCompile(modelBytes + `^[ \t\n\r]+`)
	modelLine   = regexp.MustCompile(modelBytes + `^--[^\n]*`)
	modelBrace  = regexp.MustCompile(`\{-|-\}`)
	modelNumber = regexp.MustCompile(`^[0-9]+`)
	modelName   = regexp.MustCompile(`^[a-zA-Z_][a-zA-Z0-9_']*`)
	modelKey    = regexp.MustCompile(`^(case|data|else|if|in|let|of|then)$`)
	modelLetter = regexp.MustCompile(`^'([ -&(-\[\]-~]|\\[nt\\'"]|\\x[0-9a-f][0-9a-f])'`)
	modelText   = regexp.MustCompile(`^"([ !#-\[\]-~]|\\[nt\\'"]|\\x[0-9a-f][0-9a-f])*"`)
	modelOp     = regexp.MustCompile(`^(==|/=|<=|>=|&&|\|\||\+\+|->|::|[-+*/%<>:=|\\.])`)
	modelStop   = regexp.MustCompile(`^[()\[\]{},;]`)
)

// modelNote: how many bytes a note has; 0, if it does not end or goes too deep.
func modelNote(s string) int {
	deep := 0
	for _, x := range modelBrace.FindAllStringIndex(s, -1) {
		if s[x[0]] == '{' {
			deep++
		} else {
			deep--
		}
		if deep == 0 {
			return x[1]
		}
		if deep > api.MaxDeep {
			return 0
		}
	}
	return 0
}

// modelQuoted: what a quoted form without its quotes tells.
func modelQuoted(s string) string {
	var b []byte
	for s != "" {
		n := 1
		switch {
		case s[0] != '\\':
			b = append(b, s[0])
		case s[1] == 'x':
			hex := "0123456789abcdef"
			b, n = append(b, byte(strings.IndexByte(hex, s[2])*16+strings.IndexByte(hex, s[3]))), 4
		default:
			b, n = append(b, strings.NewReplacer("n", "\n", "t", "\t").Replace(s[1:2])[0]), 2
		}
		s = s[n:]
	}
	return string(b)
}

// modelGreat: is a number above 2^63 - 1?
func modelGreat(digits string) bool {
	const most = "9223372036854775807"
	digits = strings.TrimLeft(digits, "0")
	return len(digits) > len(most) || len(digits) == len(most) && digits > most
}

// model: the token at the beginning of s, ahead of which stands one byte, told by expressions.
func model(s string, ahead byte) (Token, api.Errno) {
	if f := modelName.FindString(s); f != "" {
		t := Token{Kind: Name, End: len(f), Text: f}
		switch {
		case '0' <= ahead && ahead <= '9':
			return t, api.ErrSign
		case len(f) > api.MaxName:
			return t, api.ErrSize
		case modelKey.MatchString(f):
			t.Kind = Key
		case 'A' <= f[0] && f[0] <= 'Z':
			t.Kind = Con
		}
		return t, api.OK
	}
	if f := modelNumber.FindString(s); f != "" {
		if modelGreat(f) {
			return Token{}, api.ErrNumber
		}
		n := 0
		for _, c := range f {
			n = n*10 + int(c-'0')
		}
		return Token{Kind: Number, End: len(f), Text: f, N: n}, api.OK
	}
	if f := modelLetter.FindString(s); f != "" {
		text := modelQuoted(f[1 : len(f)-1])
		return Token{Kind: Letter, End: len(f), Text: text, N: int(text[0])}, api.OK
	}
	if f := modelText.FindString(s); f != "" {
		text := modelQuoted(f[1 : len(f)-1])
		if len(text) > api.MaxText {
			return Token{}, api.ErrQuote
		}
		return Token{Kind: Text, End: len(f), Text: text}, api.OK
	}
	if f := modelOp.FindString(s); f != "" {
		return Token{Kind: Op, End: len(f), Text: f}, api.OK
	}
	if f := modelStop.FindString(s); f != "" {
		return Token{Kind: Stop, End: len(f), Text: f}, api.OK
	}
	if s[0] == '\'' || s[0] == '"' {
		return Token{}, api.ErrQuote
	}
	return Token{}, api.ErrSign
}

// modelScan: what Scan should tell.
func modelScan(s string) ([]Token, api.Fault) {
	if len(s) > api.MaxSource {
		return nil, api.Fault{E: api.ErrSize}
	}
	var l []Token
	at, ahead := 0, byte(0)
	for at < len(s) {
		rest, n := s[at:], 0
		if strings.HasPrefix(rest, "{-") {
			if n = modelNote(rest); n == 0 {
				return nil, api.Fault{At: at, E: api.ErrNote}
			}
		} else {
			n = len(modelSpaces.FindString(rest)) + len(modelLine.FindString(rest))
		}
		if n == 0 {
			t, e := model(rest, ahead)
			if e == api.OK && len(l) == api.MaxTokens {
				e = api.ErrSize
			}
			if e != api.OK {
				return nil, api.Fault{At: at, E: e}
			}
			n = t.End
			t.At, t.End = at, at+n
			l = append(l, t)
		}
		at += n
		ahead = s[at-1]
	}
	return append(l, Token{Kind: End, At: at, End: at}), api.Fault{}
}

// within: does some byte of a lie in the memory of s?
func within(a, s string) bool {
	if a == "" || s == "" {
		return false
	}
	from, at := uintptr(unsafe.Pointer(unsafe.StringData(s))), uintptr(unsafe.Pointer(unsafe.StringData(a)))
	return at < from+uintptr(len(s)) && from < at+uintptr(len(a))
}
