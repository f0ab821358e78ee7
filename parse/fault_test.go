package parse

import (
	"reflect"
	"strings"
	"testing"

	"hammock/api"
)

// P402: faults.

func TestFaultsOfExprs(t *testing.T) {
	faultsAre(t, "expr", map[string]int{
		"": 0, "  ": 2, "-- x": 4, "_": 0, "a _": 2, "(_)": 1, "f + _": 4, "\\_ -> _": 6,
		"a b )": 4, "(a": 2, "(a ": 3, "(a]": 2, "()": 1, "(=)": 1, "(.)": 1, "(->)": 1, "(::)": 1, "(|)": 1, "(\\)": 2, "(+": 2, "(+ 1)": 3, "(1 +)": 4, "(- 1)": 3, "(a +": 4,
		"a +": 3, "+ a": 0, "a + * b": 4, "a = b": 2, "a . b": 2, "a | b": 2, "a -> b": 2, "a :: b": 2, "a, b": 1, "a;": 1, "a b = c": 4,
		"[": 1, "[1": 2, "[1,": 3, "[1,]": 3, "[,]": 1, "[1 2; 3]": 4, "[1)": 2, "[] ]": 3, "[1,,2]": 3,
		"a == b /= c": 7, "a < b < c": 6, "a < b + c < d": 10, "a < b : c ++ d > e": 15, "a && b < c < d": 11, "a < b && c < d == e": 15, "a * b == c - d <= e": 15, "a == case b of { c -> d; } == e": 27,
		"a && \\x -> b < c < d": 17,
		"\\":                    1, "\\ -> x": 2, "\\x": 2, "\\x x": 4, "\\x ->": 5, "\\x = x": 3, "\\(x": 3, "\\x : y -> x": 3, "\\C x + y": 5, "\\+ -> x": 1, "f \\x -> x": 2,
		"let": 3, "let x": 4, "let {": 5, "let { x": 7, "let { x = 1 } in x": 12, "let { x = 1; }": 14, "let { x = 1; } x": 15, "let { } in": 10, "let { ; } in x": 6, "let { data T = C; } in 1": 6, "let { _ = 1; } in 2": 6, "f let { } in x": 2,
		"let { x = 1; in x": 13, "let { x = 1;; } in x": 12,
		"if": 2, "if a": 4, "if a else b": 5, "if a then b": 11, "if a then b else": 16, "if then": 3, "if a then b else c then d": 19,
		"case": 4, "case x": 6, "case x of": 9, "case x of { }": 12, "case x of { y }": 14, "case x of { y -> z }": 19, "case x of { y = z; }": 14, "case x of { y -> z;": 19, "case x of { C + d -> z; }": 14, "case x of {} + 1": 11,
		"case x of { _ -> a; } + b": 22, "case x of { _ -> a; } b": 22, "a + case x of { _ -> a; } b": 26,
		"case x of { (y -> 1; }": 15, "case x of { [y; }": 14, "case x of { y : -> 1; }": 16, "case x of { () -> 1; }": 13, "case x of { (:) -> 1; }": 13, "case x of { x y -> 1; }": 14, "case x of { 1 x -> 1; }": 14, "case x of { - 1 -> 1; }": 12,
		"of": 0, "in": 0, "data": 0, "x data": 2, "then x": 0,
		// A Letter and a Text are no words of the grammar, whatever they quote.
		`"(" a ")"`: -1, `a "+" b`: -1, `'+' '+'`: -1, `"let" { x = 1; } in x`: 6, `[1 "]"`: 6, `(a ')'`: 6, `a "==" b == c "==" d`: -1, `"\\" x -> x`: 7,
	})
}

func TestFaultsOfTypes(t *testing.T) {
	faultsAre(t, "type", map[string]int{
		"": 0, "_": 0, "T _": 2, "a b": 2, "(T) a": 4, "[a] b": 4, "(a -> b) c": 9, "[]": 1, "[] a": 1, "()": 1, "[a": 2, "(a": 2, "[a)": 2, "[a, b]": 2,
		"a ->": 4, "-> a": 0, "a -> -> b": 5, "1": 0, "'a'": 0, `"a"`: 0, "T 1": 2, "a : b": 2, "a;": 1, "let": 0, "T data": 2, "T (": 3, "T [": 3, "(->)": 1, "a -> (": 6,
	})
}

func TestFaultsOfPrograms(t *testing.T) {
	faultsAre(t, "program", map[string]int{
		"f = 1": 5, "f = 1 ": 6, "f": 1, "f x": 3, "f = ": 4, "f x :: Int;": 4, "f :: Int = 1;": 9, "F = 1;": 0, "_ = 1;": 0, "1 = x;": 0, ";": 0, "f = 1;;": 6, "f = 1, g = 2;": 5, "x + y = 1;": 2, "(f) = 1;": 0, "f = 1; g": 8,
		"f (C x) y : z = 1;": 10, "f + = 1;": 2, "f ();": 3, "f -> x;": 2, "f :: ;": 5, "f :: T": 6, "f, g :: T;": 1, "[] = x;": 0,
		"data": 4, "data t = C;": 5, "data T": 6, "data T;": 6, "data T = ;": 9, "data T = c;": 9, "data T = C": 10, "data T = C | ;": 13, "data T = C | D": 14, "data T = C , D;": 11, "data T U = C;": 7, "data T (a) = C;": 7, "data T = C 1;": 11, "data T = C -> D;": 11, "data T = C a | | D;": 15, "data T = C _;": 11,
		"data T a a = C;": 9, "data T a b a = C;": 11, "data T a b b a = C;": 11, "data T _ = C;": 7, "data T a _ = C;": 9, "data T _a _b = C;": -1, "data [] = C;": 5, "f = let { data T = C; } in 1;": 10, "x = 1; data": 11,
	})
}

// faultsAre: is there a fault ErrWord at each place, or none at -1?
func faultsAre(t *testing.T, start string, table map[string]int) {
	for s, at := range table {
		want := word(at)
		if at < 0 {
			want = api.Fault{}
		}
		if f := faultOf(start, s); f != want {
			t.Errorf("%s: %v, not %v", s, f, want)
		}
	}
}

// A fault of Scan is told ahead of those of the grammar, even of one that stands ahead of it.
func TestFaultsOfScan(t *testing.T) {
	for s, want := range map[string]api.Fault{
		"x # y": {At: 2, E: api.ErrSign}, ") ) #": {At: 4, E: api.ErrSign}, "data = 1x": {At: 8, E: api.ErrSign}, "] 9223372036854775808": {At: 2, E: api.ErrNumber}, "= ''": {At: 2, E: api.ErrQuote}, "; \"": {At: 2, E: api.ErrQuote}, ", {- x": {At: 2, E: api.ErrNote},
		") " + strings.Repeat("n", api.MaxName+1): {At: 2, E: api.ErrSize},
		strings.Repeat(")", api.MaxTokens+1):      {At: api.MaxTokens, E: api.ErrSize},
		strings.Repeat(" ", api.MaxSource+1):      {At: 0, E: api.ErrSize},
		strings.Repeat("(", api.MaxDeep+2) + "'":  {At: api.MaxDeep + 2, E: api.ErrQuote},
	} {
		for _, start := range []string{"program", "expr", "type"} {
			if f := faultOf(start, s); f != want {
				t.Errorf("%s of %.20s: %v, not %v", start, s, f, want)
			}
		}
	}
}

// With a fault there is nothing else.
func TestNothingBesideAFault(t *testing.T) {
	for _, s := range []string{"", ")", "x = 1; y", "f x = #", "data T = C; x", "a -> ", "T a b )", "\\x -> x)", "let { x = 1; } in x ]"} {
		if l, f := Program(s + ")"); f.E == api.OK || len(l) != 0 {
			t.Errorf("%s: %v, %v", s, l, f)
		}
		if x, f := Expr(s + ")"); f.E == api.OK || !reflect.ValueOf(x).IsZero() {
			t.Errorf("%s: %v, %v", s, x, f)
		}
		if x, f := Type(s + ")"); f.E == api.OK || !reflect.ValueOf(x).IsZero() {
			t.Errorf("%s: %v, %v", s, x, f)
		}
	}
}
