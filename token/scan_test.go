package token

import (
	"slices"
	"strings"
	"testing"

	"hammock/api"
)

// P202: all tokens.

func TestConstants(t *testing.T) {
	for i, n := range []int{Name, Con, Number, Letter, Text, Op, Stop, Key, End} {
		if n != i+1 {
			t.Errorf("%d, not %d", n, i+1)
		}
	}
}

func TestScanOfEachKind(t *testing.T) {
	cases := []struct {
		s string
		l []Token
	}{
		{"", []Token{{End, 0, 0, "", 0}}},
		{" \t\r\n", []Token{{End, 4, 4, "", 0}}},
		{"x+1", []Token{{Name, 0, 1, "x", 0}, {Op, 1, 2, "+", 0}, {Number, 2, 3, "1", 1}, {End, 3, 3, "", 0}}},
		{"a1B_'' _ ", []Token{{Name, 0, 6, "a1B_''", 0}, {Name, 7, 8, "_", 0}, {End, 9, 9, "", 0}}},
		{"A1b_''C", []Token{{Con, 0, 7, "A1b_''C", 0}, {End, 7, 7, "", 0}}},
		{"let let' lets Let", []Token{{Key, 0, 3, "let", 0}, {Name, 4, 8, "let'", 0}, {Name, 9, 13, "lets", 0}, {Con, 14, 17, "Let", 0}, {End, 17, 17, "", 0}}},
		{"007 0", []Token{{Number, 0, 3, "007", 7}, {Number, 4, 5, "0", 0}, {End, 5, 5, "", 0}}},
		{"1'a'2", []Token{{Number, 0, 1, "1", 1}, {Letter, 1, 4, "a", 'a'}, {Number, 4, 5, "2", 2}, {End, 5, 5, "", 0}}},
		{"a'b'", []Token{{Name, 0, 4, "a'b'", 0}, {End, 4, 4, "", 0}}},
		{`'\n''"''\"''\'''\\''\x00''\xff'' '`, []Token{
			{Letter, 0, 4, "\n", 10}, {Letter, 4, 7, "\"", 34}, {Letter, 7, 11, "\"", 34}, {Letter, 11, 15, "'", 39}, {Letter, 15, 19, "\\", 92},
			{Letter, 19, 25, "\x00", 0}, {Letter, 25, 31, "\xff", 255}, {Letter, 31, 34, " ", 32}, {End, 34, 34, "", 0},
		}},
		{`"""it's\'\"\x41\t"x`, []Token{{Text, 0, 2, "", 0}, {Text, 2, 18, "it's'\"A\t", 0}, {Name, 18, 19, "x", 0}, {End, 19, 19, "", 0}}},
		{`"--{-" x`, []Token{{Text, 0, 6, "--{-", 0}, {Name, 7, 8, "x", 0}, {End, 8, 8, "", 0}}},
		{"()[]{},;", []Token{
			{Stop, 0, 1, "(", 0}, {Stop, 1, 2, ")", 0}, {Stop, 2, 3, "[", 0}, {Stop, 3, 4, "]", 0},
			{Stop, 4, 5, "{", 0}, {Stop, 5, 6, "}", 0}, {Stop, 6, 7, ",", 0}, {Stop, 7, 8, ";", 0}, {End, 8, 8, "", 0},
		}},
		{"\\x->y.z", []Token{{Op, 0, 1, "\\", 0}, {Name, 1, 2, "x", 0}, {Op, 2, 4, "->", 0}, {Name, 4, 5, "y", 0}, {Op, 5, 6, ".", 0}, {Name, 6, 7, "z", 0}, {End, 7, 7, "", 0}}},
	}
	for _, x := range cases {
		if l, f := Scan(x.s); !slices.Equal(l, x.l) || f != (api.Fault{}) {
			t.Errorf("%q: %v, %v", x.s, l, f)
		}
	}
}

func TestKeysAndOps(t *testing.T) {
	for kind, list := range map[int]string{
		Key: "case data else if in let of then",
		Op:  "+ - * / % == /= < <= > >= && || : ++ = | -> \\ :: .",
	} {
		for _, s := range strings.Fields(list) {
			want := []Token{{kind, 0, len(s), s, 0}, {End, len(s), len(s), "", 0}}
			if l, f := Scan(s); !slices.Equal(l, want) || f.E != api.OK {
				t.Errorf("%s: %v, %v", s, l, f)
			}
		}
	}
}

// scanned: the texts of what Scan tells, without the End's, parted by blanks.
func scanned(t *testing.T, s string) string {
	l, f := Scan(s)
	if f != (api.Fault{}) || len(l) == 0 || l[len(l)-1].Kind != End {
		t.Errorf("%q: %v, %v", s, l, f)
		return ""
	}
	var all []string
	for _, x := range l[:len(l)-1] {
		all = append(all, x.Text)
	}
	return strings.Join(all, " ")
}

func TestLongestOps(t *testing.T) {
	for s, want := range map[string]string{
		"+++": "++ +", "===": "== =", "<==": "<= =", ">==": ">= =", "|||": "|| |", ":::": ":: :", "->-": "-> -", "=-": "= -", "<->": "< ->",
		"/==": "/= =", "\\\\": "\\ \\", "..": ". .", "=>": "= >", "&&&&": "&& &&", "+-1": "+ - 1", ">>=": "> >=", "*/%": "* / %", "->>": "-> >", ":=": ": =", "|=": "| =",
	} {
		if got := scanned(t, s); got != want {
			t.Errorf("%s: %s, not %s", s, got, want)
		}
	}
}

func TestNotes(t *testing.T) {
	for s, want := range map[string]string{
		"a--b":                      "a",
		"a--b\nc":                   "a c",
		"--":                        "",
		"--\n--\n":                  "",
		"a-- {- '\" # \xff\r b\nc":  "a c",
		"-->x":                      "",
		"+--+\n+":                   "+ +",
		"- -":                       "- -",
		"{--}":                      "",
		"{---}a":                    "a",
		"{- -- -}a":                 "a",
		"a{-\n# ' \" \xff-}b":       "a b",
		"{- {--} {- {- -} -} -}a":   "a",
		"{-{-}-}-}a":                "a",
		"{ -}":                      "{ - }",
		"-}":                        "- }",
		"1{--}a":                    "1 a",
		"1--\na":                    "1 a",
		"1 a":                       "1 a",
		"1\na":                      "1 a",
		"a{-b-}1":                   "a 1",
		"{-a-}{-b-} {-c-}x--{-\ny ": "x y",
	} {
		if got := scanned(t, s); got != want {
			t.Errorf("%q: %s, not %s", s, got, want)
		}
	}
}

// P202: faults.

func TestFaults(t *testing.T) {
	for s, want := range map[string]api.Fault{
		"#": {At: 0, E: api.ErrSign}, "a$": {At: 1, E: api.ErrSign}, "\x00": {At: 0, E: api.ErrSign}, " \x80": {At: 1, E: api.ErrSign}, "a\x7f": {At: 1, E: api.ErrSign}, "a\v": {At: 1, E: api.ErrSign},
		"!": {At: 0, E: api.ErrSign}, "a != b": {At: 2, E: api.ErrSign}, "&": {At: 0, E: api.ErrSign}, "&&&": {At: 2, E: api.ErrSign}, "a & b": {At: 2, E: api.ErrSign},
		"1x": {At: 1, E: api.ErrSign}, "12Xy": {At: 2, E: api.ErrSign}, "1_000": {At: 1, E: api.ErrSign}, "a 0let": {At: 3, E: api.ErrSign}, "0x1f": {At: 1, E: api.ErrSign},
		"1" + strings.Repeat("x", api.MaxName+1): {At: 1, E: api.ErrSign},
		"9223372036854775808":                    {At: 0, E: api.ErrNumber}, "x 9223372036854775808 #": {At: 2, E: api.ErrNumber}, "9223372036854775808x": {At: 0, E: api.ErrNumber},
		"18446744073709551617": {At: 0, E: api.ErrNumber}, "00009223372036854775808": {At: 0, E: api.ErrNumber}, strings.Repeat("9", 1000): {At: 0, E: api.ErrNumber},
		"'": {At: 0, E: api.ErrQuote}, "''": {At: 0, E: api.ErrQuote}, "'''": {At: 0, E: api.ErrQuote}, "'a": {At: 0, E: api.ErrQuote}, "'ab'": {At: 0, E: api.ErrQuote}, "1 'ab'": {At: 2, E: api.ErrQuote},
		`'\'`: {At: 0, E: api.ErrQuote}, `'\q'`: {At: 0, E: api.ErrQuote}, `'\x4'`: {At: 0, E: api.ErrQuote}, `'\xAB'`: {At: 0, E: api.ErrQuote}, "'\n'": {At: 0, E: api.ErrQuote}, "'\xff'": {At: 0, E: api.ErrQuote},
		`"`: {At: 0, E: api.ErrQuote}, `x "a`: {At: 2, E: api.ErrQuote}, `"""`: {At: 2, E: api.ErrQuote}, `"\"`: {At: 0, E: api.ErrQuote}, `"\`: {At: 0, E: api.ErrQuote}, "\"a\nb\"": {At: 0, E: api.ErrQuote},
		"\"\t\"": {At: 0, E: api.ErrQuote}, "\"\xc3\xa4\"": {At: 0, E: api.ErrQuote}, `"\r"`: {At: 0, E: api.ErrQuote},
		"{-": {At: 0, E: api.ErrNote}, "{-}": {At: 0, E: api.ErrNote}, "y {- -": {At: 2, E: api.ErrNote}, "a {- {- -}": {At: 2, E: api.ErrNote}, "{--} {- {-": {At: 5, E: api.ErrNote}, "{- -- \n": {At: 0, E: api.ErrNote}, "{-\"-}\"{-": {At: 5, E: api.ErrQuote},
		"# {-": {At: 0, E: api.ErrSign}, "{- #": {At: 0, E: api.ErrNote}, "'' \"": {At: 0, E: api.ErrQuote},
	} {
		if l, f := Scan(s); f != want || len(l) != 0 {
			t.Errorf("%q: %v, %v, not %v", s, l, f, want)
		}
	}
}

func TestGreatestNumber(t *testing.T) {
	for s, n := range map[string]int{"9223372036854775807": 1<<63 - 1, strings.Repeat("0", 100) + "9223372036854775807": 1<<63 - 1, strings.Repeat("0", 1000) + "1": 1} {
		if l, f := Scan(s); len(l) != 2 || l[0] != (Token{Number, 0, len(s), s, n}) || f.E != api.OK {
			t.Errorf("%s: %v, %v", s, l, f)
		}
	}
}

// P202: limits.

func TestMostBytes(t *testing.T) {
	for _, fill := range []string{" ", "-", "{--}"} {
		s := strings.Repeat(fill, api.MaxSource)[:api.MaxSource]
		if l, f := Scan(s); !slices.Equal(l, []Token{{End, api.MaxSource, api.MaxSource, "", 0}}) || f.E != api.OK {
			t.Errorf("%q: %v, %v", fill, l, f)
		}
	}
	for _, s := range []string{strings.Repeat(" ", api.MaxSource+1), strings.Repeat("#", api.MaxSource+1), "x #" + strings.Repeat("{-", api.MaxSource), strings.Repeat("x", 10*api.MaxSource)} {
		if l, f := Scan(s); f != (api.Fault{At: 0, E: api.ErrSize}) || len(l) != 0 {
			t.Errorf("%d bytes: %d tokens, %v", len(s), len(l), f)
		}
	}
}

func TestMostTokens(t *testing.T) {
	most := strings.Repeat("a ", api.MaxTokens)
	l, f := Scan(most)
	if len(l) != api.MaxTokens+1 || f.E != api.OK || l[api.MaxTokens] != (Token{End, len(most), len(most), "", 0}) {
		t.Fatalf("%d tokens, %v", len(l), f)
	}
	at := len(most)
	for more, want := range map[string]api.Fault{
		"{- x -}":             {},
		"x":                   {At: at, E: api.ErrSize},
		" 1x":                 {At: at + 1, E: api.ErrSize},
		"\"":                  {At: at, E: api.ErrQuote},
		"9223372036854775808": {At: at, E: api.ErrNumber}, "#": {At: at, E: api.ErrSign}, "{-": {At: at, E: api.ErrNote},
		"-- x\n;#": {At: at + 5, E: api.ErrSize},
	} {
		if l, g := Scan(most + more); g != want || (len(l) == 0) != (want.E != api.OK) {
			t.Errorf("%q: %d tokens, %v, not %v", more, len(l), g, want)
		}
	}
	if _, f := Scan(strings.Repeat(";", api.MaxSource)); f != (api.Fault{At: api.MaxTokens, E: api.ErrSize}) {
		t.Error(f)
	}
}

func TestMostBytesOfAName(t *testing.T) {
	for _, head := range []string{"a", "A", "_"} {
		s := head + strings.Repeat("x", api.MaxName-1)
		if got := scanned(t, "("+s+")"); got != "( "+s+" )" {
			t.Error(got)
		}
		for _, more := range []string{"x", "1", "'", "_", "X", strings.Repeat("y", 1000)} {
			if l, f := Scan("(" + s + more + "#"); f != (api.Fault{At: 1, E: api.ErrSize}) || len(l) != 0 {
				t.Errorf("%s: %v, %v", s+more, l, f)
			}
		}
	}
}

func TestMostBytesOfAText(t *testing.T) {
	for _, escape := range []string{"a", "'", `\"`, `\x00`, `\xff`} {
		s := ` "` + strings.Repeat(escape, api.MaxText) + `"`
		if l, f := Scan(s); len(l) != 2 || len(l[0].Text) != api.MaxText || l[0].End != len(s) || f.E != api.OK {
			t.Errorf("%s: %v, %v", escape, l, f)
		}
		s = ` "` + strings.Repeat(escape, api.MaxText+1) + `"`
		if l, f := Scan(s); f != (api.Fault{At: 1, E: api.ErrQuote}) || len(l) != 0 {
			t.Errorf("%s: %v, %v", escape, l, f)
		}
	}
}

func TestMostNotesWithinEachOther(t *testing.T) {
	deep := func(n int) string { return strings.Repeat("{- ", n) + strings.Repeat("-}", n) }
	if got := scanned(t, "a "+deep(api.MaxDeep)+deep(api.MaxDeep)+" b"); got != "a b" {
		t.Error(got)
	}
	beside := "{- " + strings.Repeat(deep(api.MaxDeep-1), 20) + "-}"
	if got := scanned(t, beside+"x"); got != "x" {
		t.Error(got)
	}
	for _, s := range []string{deep(api.MaxDeep + 1), strings.Repeat("{-", api.MaxDeep+1), deep(10000), "{- {- -} " + deep(api.MaxDeep) + "-}"} {
		if l, f := Scan("a " + s + " b"); f != (api.Fault{At: 2, E: api.ErrNote}) || len(l) != 0 {
			t.Errorf("%d bytes: %v, %v", len(s), l, f)
		}
	}
}

// P202: all small texts, and longer ones, as expressions tell them.

func TestScanAsExpressionsTell(t *testing.T) {
	good, bad := 0, 0
	for _, s := range append(smallTexts(), longTexts(20000)...) {
		want, fault := modelScan(s)
		l, f := Scan(s)
		if f != fault || !slices.Equal(l, want) {
			t.Fatalf("%q: %v, %v, not %v, %v", s, l, f, want, fault)
		}
		if f.E == api.OK {
			good++
		} else {
			bad++
		}
	}
	if good < 10000 || bad < 10000 {
		t.Errorf("just %d sources without a fault, %d with one", good, bad)
	}
}

// P205.

func TestTokensStandBehindEachOther(t *testing.T) {
	for _, s := range append(smallTexts(), longTexts(5000)...) {
		l, f := Scan(s)
		if f.E != api.OK {
			continue
		}
		at := 0
		for _, x := range l {
			if x.At < at || x.End < x.At || x.End > len(s) || (x.At == x.End) != (x.Kind == End) {
				t.Fatalf("%q: %v behind %d", s, x, at)
			}
			if m, g := Scan(s[at:x.At]); len(m) != 1 || g.E != api.OK {
				t.Fatalf("%q: tokens ahead of %v", s, x)
			}
			if x.Kind != Letter && x.Kind != Text && s[x.At:x.End] != x.Text {
				t.Fatalf("%q: %v", s, x)
			}
			at = x.End
		}
		if at != len(s) {
			t.Fatalf("%q ends at %d", s, at)
		}
	}
}

// P206.

func TestBeginnings(t *testing.T) {
	for _, s := range append(smallTexts(), longTexts(2000)...) {
		l, f := Scan(s)
		if f.E != api.OK {
			continue
		}
		for i, x := range l {
			m, g := Scan(s[:x.End] + "\n")
			ahead := slices.Clone(l[:i+1])
			if x.Kind == End {
				ahead = ahead[:i]
			}
			ahead = append(ahead, Token{End, x.End + 1, x.End + 1, "", 0})
			if !slices.Equal(m, ahead) || g.E != api.OK {
				t.Fatalf("%q up to %v: %v, %v", s, x, m, g)
			}
		}
	}
}

func TestBeginningsAheadOfAFault(t *testing.T) {
	for _, s := range []string{"x 1 'a' \"b\" -> Con; let ", "f x' = {- {- a -} -} x'-1 -- note\n  :: "} {
		l, _ := Scan(s)
		for _, wrong := range []string{"#", "'", "\"", "{-", "99999999999999999999", "1x"} {
			if _, f := Scan(s + wrong); f.E == api.OK || f.At < len(s) {
				t.Errorf("%q: %v", s+wrong, f)
			}
		}
		last := l[len(l)-2]
		if m, f := Scan(s[:last.End] + "\n"); f.E != api.OK || !slices.Equal(m[:len(m)-1], l[:len(l)-1]) {
			t.Errorf("%q: %v, %v", s, m, f)
		}
	}
}
