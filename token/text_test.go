package token

import (
	"math"
	"slices"
	"strings"
	"testing"

	"hammock/api"
)

// P201.

func TestAnyTokenIsAnswered(t *testing.T) {
	numbers := []int{math.MinInt, -1, 0, 1, 10, 1000, math.MaxInt}
	var l []Token
	for _, kind := range numbers {
		for k := range 12 {
			for _, at := range numbers {
				for _, s := range []string{"", "a", "'", "\"", "ab", "\x00", strings.Repeat("x", 1000)} {
					l = append(l, Token{kind + k, at, -at, s, at})
				}
			}
		}
	}
	for _, x := range l {
		Show(x)
	}
	if n := strings.Count(Join(l), " "); n < len(l)-1 {
		t.Errorf("%d blanks between %d tokens", n, len(l))
	}
	for _, s := range append(smallTexts(), "\xff", strings.Repeat("a", 1<<20), strings.Repeat("=", 1<<20)) {
		Word(s)
		Sign(s)
	}
}

func TestSameAnswerTwice(t *testing.T) {
	for _, s := range longTexts(200) {
		one, f := Scan(s)
		two, g := Scan(s)
		if f != g || !slices.Equal(one, two) || Join(one) != Join(two) {
			t.Errorf("%q: %v, then %v", s, one, two)
		}
	}
}

func TestNothingHandedInIsChanged(t *testing.T) {
	l, _ := Scan("let x = 'a' in \"b\" ++ [x, 007] -- note")
	room := slices.Clone(l)
	Join(l[:3])
	for _, x := range l {
		Show(x)
	}
	if !slices.Equal(l, room) {
		t.Error(l)
	}
}

func TestAnswersAreNewMemory(t *testing.T) {
	s := "let x = Con 007 'a' \"b c\" ++ [y] == z -- note"
	l, _ := Scan(s)
	m, _ := Scan(s)
	for i, x := range l {
		if within(x.Text, s) {
			t.Errorf("%v shares memory with the source", x)
		}
		for j, y := range m {
			if within(x.Text, y.Text) || i != j && within(x.Text, l[j].Text) {
				t.Errorf("%v and %v share memory", x, y)
			}
		}
		if within(Show(x), x.Text) || within(Join([]Token{x}), x.Text) || within(Show(x), Show(x)) {
			t.Errorf("what is shown of %v shares memory", x)
		}
	}
	l[0] = Token{}
	if m[0].Kind != Key {
		t.Error("two answers share memory")
	}
}

// P203.

func TestWord(t *testing.T) {
	most := strings.Repeat("x", api.MaxName)
	for _, s := range []string{"a", "z", "_", "__", "a1", "aB", "a'", "a''b", "x_1'", "lets", "let'", "iff", "of_", "cas", "dat", most} {
		if !Word(s) {
			t.Errorf("%q is a Name's text", s)
		}
	}
	for _, s := range []string{
		"", "A", "1", "'", "'a", "1a", "Ab", " a", "a ", "a\n", "a b", "a-", "a.b", "+", "\"a\"", "a\x00", "\xe4", "a\xe4", "a--", "a{--}",
		"case", "data", "else", "if", "in", "let", "of", "then", most + "x",
	} {
		if Word(s) {
			t.Errorf("%q is no Name's text", s)
		}
	}
}

func TestSign(t *testing.T) {
	ops := strings.Fields("+ - * / % == /= < <= > >= && || : ++ = | -> \\ :: .")
	for _, s := range append(texts("+-*/%=<>|&:.\\!", 3), "a", "1", "(", " +", "+ ", "\x00", "let") {
		if Sign(s) != slices.Contains(ops, s) {
			t.Errorf("Sign(%q): %v", s, Sign(s))
		}
	}
	if len(ops) != 21 {
		t.Error(len(ops))
	}
}

func TestWordAndSignAreWhatScanTells(t *testing.T) {
	for _, s := range smallTexts() {
		l, f := Scan(s)
		alone := f.E == api.OK && len(l) == 2 && l[0].Text == s
		if Word(s) != (alone && l[0].Kind == Name) || Sign(s) != (alone && l[0].Kind == Op) {
			t.Errorf("%q: %v, %v", s, Word(s), Sign(s))
		}
	}
}

func TestShow(t *testing.T) {
	cases := []struct {
		t    Token
		want string
	}{
		{Token{Name, 3, 4, "x'", 5}, "x'"}, {Token{Con, 0, 0, "Just", 0}, "Just"}, {Token{Op, 0, 0, "->", 0}, "->"}, {Token{Stop, 0, 0, "{", 0}, "{"}, {Token{Key, 0, 0, "let", 0}, "let"},
		{Token{Name, 0, 0, "no name", 0}, "no name"}, {Token{Op, 0, 0, "", 0}, ""}, {Token{Stop, 0, 0, "\x00\"", 0}, "\x00\""},
		{Token{Number, 0, 0, "7", 7}, "7"}, {Token{Number, 0, 0, "007", 7}, "7"}, {Token{Number, 0, 0, "x", 0}, "0"}, {Token{Number, 0, 0, "5", -5}, "0"},
		{Token{Number, 0, 0, "", math.MaxInt}, "9223372036854775807"}, {Token{Number, 0, 0, "", math.MinInt}, "0"},
		{Token{Letter, 0, 0, "a", 'b'}, "'a'"}, {Token{Letter, 0, 0, "'", 0}, `'\''`}, {Token{Letter, 0, 0, "\"", 0}, `'"'`}, {Token{Letter, 0, 0, "\n", 0}, `'\n'`}, {Token{Letter, 0, 0, "\\", 0}, `'\\'`}, {Token{Letter, 0, 0, "\xff", 0}, `'\xff'`}, {Token{Letter, 0, 0, "\x00", 0}, `'\x00'`},
		{Token{Letter, 0, 0, "", 'a'}, "''"}, {Token{Letter, 0, 0, "ab", 'a'}, "''"},
		{Token{Text, 0, 0, "", 0}, `""`}, {Token{Text, 0, 0, "it's \"x\"", 0}, `"it's \"x\""`}, {Token{Text, 0, 0, "\n\\\x80", 9}, `"\n\\\x80"`},
		{Token{Text, 0, 0, strings.Repeat("a", 1000), 0}, `"` + strings.Repeat("a", 1000) + `"`},
		{Token{End, 0, 0, "", 0}, ""}, {Token{End, 1, 1, "x", 1}, ""},
		{Token{}, ""}, {Token{0, 0, 0, "x", 1}, "x"}, {Token{10, 0, 0, "y", 1}, "y"}, {Token{-1, 0, 0, "'z", 1}, "'z"},
	}
	for _, x := range cases {
		if s := Show(x.t); s != x.want {
			t.Errorf("%v: %s, not %s", x.t, s, x.want)
		}
	}
}

func TestShowOfEveryByte(t *testing.T) {
	for i := range 256 {
		c := string([]byte{byte(i)})
		for _, kind := range []int{Letter, Text} {
			s := Show(Token{Kind: kind, Text: c})
			l, f := Scan(s)
			if len(l) != 2 || f.E != api.OK || l[0].Kind != kind || l[0].Text != c || kind == Letter && l[0].N != i {
				t.Errorf("%q: %v, %v", s, l, f)
			}
		}
	}
}

func TestJoin(t *testing.T) {
	x, one, end := Token{Kind: Name, Text: "x"}, Token{Kind: Number, Text: "01", N: 1}, Token{Kind: End}
	cases := []struct {
		l    []Token
		want string
	}{
		{nil, ""}, {[]Token{}, ""}, {[]Token{end}, ""}, {[]Token{x}, "x"}, {[]Token{x, end}, "x "}, {[]Token{end, x}, " x"}, {[]Token{x, one, x}, "x 1 x"},
		{[]Token{{}, {}, {}}, "  "}, {[]Token{{Kind: Letter, Text: "'"}, {Kind: Text, Text: "'"}, {Kind: Letter}}, `'\'' "'" ''`},
	}
	for _, c := range cases {
		if s := Join(c.l); s != c.want {
			t.Errorf("%v: %q, not %q", c.l, s, c.want)
		}
	}
	if s := Join(slices.Repeat([]Token{x}, 100000)); s != strings.Repeat("x ", 99999)+"x" {
		t.Error(len(s))
	}
}

// P204.

func TestScanOfJoin(t *testing.T) {
	found := 0
	for _, s := range append(smallTexts(), longTexts(20000)...) {
		l, f := Scan(s)
		if f.E != api.OK {
			continue
		}
		found++
		m, g := Scan(Join(l))
		if g.E != api.OK || len(m) != len(l) {
			t.Fatalf("%q: %v, %v", s, m, g)
		}
		for i, x := range l {
			text := x.Text
			if x.Kind == Number {
				if text = strings.TrimLeft(text, "0"); text == "" {
					text = "0"
				}
			}
			if y := m[i]; y.Kind != x.Kind || y.Text != text || y.N != x.N {
				t.Fatalf("%q: %v, not %v", s, y, x)
			}
		}
		if again := Join(m); again != Join(l) {
			t.Fatalf("%q: %q, then %q", s, Join(l), again)
		}
	}
	if found < 10000 {
		t.Errorf("just %d sources", found)
	}
}
