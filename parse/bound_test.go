package parse

import (
	"fmt"
	"slices"
	"strings"
	"testing"

	"hammock/api"
	"hammock/tree"
)

// P402: bounds.

// many: a text n times.
func many(n int, s string) string { return strings.Repeat(s, n) }

// numbered: n texts, in each of which a number stands for %d.
func numbered(n int, s string) string {
	var b strings.Builder
	for i := range n {
		fmt.Fprintf(&b, s, i)
	}
	return b.String()
}

// bound: is a source with the most of something read, and is there a fault where there would be more: behind what is ahead, whatever follows?
func bound(t *testing.T, start, most, ahead string, e api.Errno, follow ...string) {
	t.Helper()
	if f := faultOf(start, most); f != (api.Fault{}) {
		t.Errorf("%.30s: %v", most, f)
	}
	for _, s := range follow {
		if f := faultOf(start, ahead+s); f != (api.Fault{At: len(ahead), E: e}) {
			t.Errorf("%.30s and %s: %v, not %d at %d", ahead, s, f, e, len(ahead))
			return
		}
	}
}

// anything: tokens of all kinds, and the End.
var anything = []string{"", "a", "_", "C", "1", "'a'", "\"a\"", ")", "]", "{", "}", ",", ";", "=", "->", ".", "data", "of", "let", "\\x -> x", "if", "(", "[a]", "["}

// MaxDeep exprs, pats and types stand within each other, each kind in each way.
func TestDeepExprs(t *testing.T) {
	// What opens, up to what is nested; what ends; what opens, up to the first expr in it.
	for _, x := range [][3]string{
		{"(", ")", "("}, {"[", "]", "["}, {"f (", ")", "f ("}, {"[a, ", "]", "["}, {"1 + (", ")", "1 + ("}, {"(+) [", "] b", "(+) ["},
		{`\x -> `, "", `\x -> `}, {"if ", " then a else b", "if "}, {"if a then ", " else b", "if "}, {"if a then b else ", "", "if "},
		{"case ", " of { a -> b; }", "case "}, {"case a of { b -> ", "; }", "case "}, {"let { } in ", "", "let { } in "},
		{"let { a = ", "; } in b", "let { a = "}, {"let { a x y = b; c = ", "; d = e; } in f", "let { a x y = "},
	} {
		// The outermost one stands in no other one.
		n := api.MaxDeep - 1
		most, ahead := many(n, x[0])+"a"+many(n, x[1]), many(n, x[0])+x[2]
		bound(t, "expr", most, ahead, api.ErrDeep, withoutEnd(ahead)...)
		bound(t, "program", "x = "+most+";", "x = "+ahead, api.ErrDeep, withoutEnd(ahead)...)
	}
}

func TestDeepForms(t *testing.T) {
	// A form that is an operand stands in the run's expr, and its body in it.
	for _, x := range [][3]string{{`a + \x -> `, "", `a + \x -> `}, {"a + let { } in ", "", "a + let { } in "}, {"a + if b then c else ", "", "a + if "}, {"a + case ", " of { _ -> b; }", "a + case "}} {
		n := api.MaxDeep/2 - 1
		most, ahead := many(n, x[0])+"a"+many(n, x[1]), many(n, x[0])
		bound(t, "expr", most, ahead+x[2], api.ErrDeep, anything...)
		bound(t, "expr", "("+most+")", "("+ahead+"a + ", api.ErrDeep, `\x -> a`, "let", "if )", "case")
		bound(t, "expr", "("+most+")", "("+ahead+"a + ", api.ErrWord, "", "=", ")", "of", "data")
	}
}

// What is no expr, or ends at once, does not stand deeper.
func TestDeepAtoms(t *testing.T) {
	open, end := many(api.MaxDeep-1, "("), many(api.MaxDeep-1, ")")
	for _, s := range []string{"(+)", "(:) a", "[]", "[] + (*)", "a b + c", "'a' \"b\" 1"} {
		bound(t, "expr", open+s+end, open+"(", api.ErrDeep, "a", ")", "", "=", ".", "->", "[]")
	}
	bound(t, "expr", open+"a"+end, open+"(+ ", api.ErrWord, "a", "", "]", "+")
	bound(t, "expr", open+"a"+end, open+"[", api.ErrDeep, "", ")", ",", "+", "a]")
}

func TestDeepPats(t *testing.T) {
	// At the top of a program no expr stands around a pattern.
	for _, x := range [][3]string{{"(", ")", "("}, {"[", "]", "["}, {"([", "])", "("}, {"(C a (", "))", "("}, {"[a, ", "]", "["}, {"(a : ", ")", "("}} {
		n := api.MaxDeep
		if strings.Count(x[0], "(")+strings.Count(x[0], "[")+strings.Count(x[0], ":") == 2 {
			n /= 2
		}
		ahead := "f " + many(n, x[0]) + x[2]
		bound(t, "program", "f "+many(n, x[0])+"a"+many(n, x[1])+" = 1;", ahead, api.ErrDeep, withoutEnd(ahead)...)
	}
	heads := many(api.MaxDeep-2, "a : ")
	bound(t, "expr", "case a of { "+heads+"a -> b; }", "case a of { "+heads+"a : ", api.ErrDeep, anything...)
	bound(t, "program", "f ("+heads+"a : a) = 1;", "f ("+heads+"a : a : ", api.ErrDeep, anything...)
	bound(t, "program", "f ("+heads+"a : []) = 1;", "f ("+heads+"a : [", api.ErrDeep, "a", ")", "")
	lets := many(api.MaxDeep-1, "let { } in ")
	bound(t, "expr", lets+"a", lets+`\(`, api.ErrDeep, anything...)
	bound(t, "expr", lets+"a", lets+`\[`, api.ErrDeep, "a", "", ")")
	bound(t, "expr", lets+"a", lets+`\[] a C 1 -> `, api.ErrDeep, anything...)
}

// withoutEnd: anything, but what would end at once the bracket that opens last.
func withoutEnd(open string) []string {
	return slices.DeleteFunc(slices.Clone(anything), func(s string) bool { return s == "]" && strings.HasSuffix(open, "[") })
}

func TestDeepTypes(t *testing.T) {
	for _, x := range [][2]string{{"(", ")"}, {"[", "]"}, {"a -> ", ""}, {"T a (", ") b"}, {"T [", "]"}} {
		most, ahead := many(api.MaxDeep-1, x[0])+"a"+many(api.MaxDeep-1, x[1]), many(api.MaxDeep, x[0])
		bound(t, "type", most, ahead, api.ErrDeep, anything...)
		bound(t, "program", "x :: "+most+";", "x :: "+ahead, api.ErrDeep, anything...)
	}
	// The atypes of a data's cons stand in no type.
	bound(t, "program", "data T = C "+many(api.MaxDeep, "[")+"a"+many(api.MaxDeep, "]")+";", "data T = C "+many(api.MaxDeep+1, "("), api.ErrDeep, anything...)
	// Each kind counts together with the others.
	lets := many(api.MaxDeep/2-1, "let { } in ") + "let { a :: "
	bound(t, "expr", lets+many(api.MaxDeep/2-1, "a -> ")+"a; } in a", lets+many(api.MaxDeep/2, "a -> "), api.ErrDeep, anything...)
	bound(t, "expr", lets+many(api.MaxDeep/2-1, "[")+"a"+many(api.MaxDeep/2-1, "]")+"; } in a", lets+many(api.MaxDeep/2, "["), api.ErrDeep, anything...)
}

func TestLongRuns(t *testing.T) {
	for _, op := range []string{"+", "-", "*", ":", "++", "&&", "||"} {
		most := many(api.MaxDeep-1, "a "+op+" ") + "a"
		bound(t, "expr", most, most+" ", api.ErrSize, "+ a", "- a", ": a", "&& a", "||", "== a", "< )", "*")
		bound(t, "expr", most, most+" ", api.ErrWord, "= a", ")", "\\", "of", "| a", "_")
	}
	// The operator that is one too many may be a comparison that stands beside another one.
	compared := "a == " + many(api.MaxDeep-2, "a + ") + "a "
	bound(t, "expr", compared, compared, api.ErrSize, "+ a", "&& a", ": a")
	bound(t, "expr", compared, compared, api.ErrWord, "== a", "< a", ">=")
	// Forms are operands, too.
	forms := "a" + many(api.MaxDeep-1, " : case a of { _ -> b + c; }")
	bound(t, "expr", forms, forms+" ", api.ErrSize, ": a", "+")
	last := many(api.MaxDeep-1, "a + ")
	bound(t, "expr", last+`\x -> a + b`, last+"a ", api.ErrSize, `+ \x -> a`)
	// A run within another one counts by itself.
	bound(t, "expr", last+"("+last+"a)", last+"("+last+"a ", api.ErrSize, "+ a)")
}

func TestManyAtoms(t *testing.T) {
	for _, ahead := range []string{"", "a + ", "(", `\x -> `, "a * b - "} {
		end := strings.Repeat(")", strings.Count(ahead, "("))
		most := ahead + "f" + many(api.MaxParts, " a")
		bound(t, "expr", most+" + g b"+end, most+" ", api.ErrSize, "a", "C", "1", "'a'", "\"a\"", "(", "(+)", "[", "[]")
		bound(t, "expr", most+end, most+" ", api.ErrWord, "_", "]", "\\", "let", "if", "case", "=", "}", "of", ".", "::")
	}
}

func TestManyItems(t *testing.T) {
	items := many(api.MaxDeep-1, "a, ")
	bound(t, "expr", "["+items+"a]", "["+items+"a, ", api.ErrSize, append(anything, "a]", "+")...)
	bound(t, "expr", "[["+items+"a], ["+items+"a]]", "[["+items+"a, ", api.ErrSize, anything...)
	bound(t, "expr", "["+items+"a]", "["+items+"a ", api.ErrWord, "", ")", ";", "of")
	bound(t, "program", "f ["+items+"_] = 1;", "f ["+items+"_, ", api.ErrSize, append(anything, "a]", "+")...)
	bound(t, "expr", `\[`+items+"1] -> 1", `\[`+items+"1, ", api.ErrSize, anything...)
}

func TestManyInARow(t *testing.T) {
	pats := many(api.MaxParts, " a")
	apats := []string{"a", "_", "C", "1", "'a'", "\"a\"", "(", "(a)", "[", "[]"}
	noPats := []string{"", ",", ";", "\\", "let", "+", "|"}
	for _, x := range [][3]string{{"program", "f", " = 1;"}, {"expr", `\`, " -> 1"}, {"program", "f (C", ") = 1;"}, {"expr", "case a of { C", " -> 1; }"}, {"expr", "let { a = b; f", " = 1; } in f"}} {
		most := x[1] + pats
		bound(t, x[0], most+x[2], most+" ", api.ErrSize, apats...)
		bound(t, x[0], most+x[2], most+" ", api.ErrWord, noPats...)
	}
	atypes := []string{"a", "T", "(", "(a)", "[", "[a]"}
	noTypes := []string{"_", ")", "1", "=", "let", "+"}
	for _, x := range [][3]string{{"type", "T", ""}, {"type", "[T", "]"}, {"program", "f :: T", ";"}, {"program", "data T = C", ";"}, {"program", "data T = C a | D", " | E;"}} {
		most := x[1] + pats
		bound(t, x[0], most+x[2], most+" ", api.ErrSize, atypes...)
		bound(t, x[0], most+x[2], most+" ", api.ErrWord, noTypes...)
	}
}

func TestManyNamesOfAData(t *testing.T) {
	most := "data T" + numbered(api.MaxParts, " a%d") + " "
	bound(t, "program", most+"= C;", most, api.ErrSize, "b", "_", "_a", "a16", "b b")
	bound(t, "program", most+"= C;", most, api.ErrWord, "a0", "a15", "C", "1", "(", "", "of")
	one := "data T" + numbered(api.MaxParts-1, " a%d") + " "
	bound(t, "program", one+"a = C;", one, api.ErrWord, "_", "a0", "a14")
}

func TestManyCons(t *testing.T) {
	most := "data T = C" + numbered(api.MaxCons-1, " a | D%d")
	bound(t, "program", most+";", most+" | ", api.ErrSize, append(anything, "C;", "|")...)
	bound(t, "program", most+";", most+" ", api.ErrWord, "", "=", ",", "_")
}

func TestManyDecls(t *testing.T) {
	for _, decl := range []string{"a = 1; ", "a :: T; ", "data T = C; "} {
		most := many(api.MaxDecls, decl)
		bound(t, "program", most, most, api.ErrSize, append(anything[1:], "+", "a = 1;")...)
	}
	decls := many(api.MaxDecls, "a=a;")
	bound(t, "expr", "let {"+decls+"} in a", "let {"+decls, api.ErrSize, "", "a", "a=a;} in a", ")", "data", ";", "in")
	bound(t, "program", "x = let {"+decls+"} in a; y = let {"+decls+"} in a;", "x = let {"+decls, api.ErrSize, "", "a", ";")
	alts := many(api.MaxDecls, "_ -> a;")
	bound(t, "expr", "case a of {"+alts+"}", "case a of {"+alts, api.ErrSize, "", "a", "_ -> a; }", ")", ";", "->", "(")
}

// P403: trees that are too deep for tree are told all the same.
func TestTreesThatAreTooDeep(t *testing.T) {
	s := "a"
	for range 10 {
		s = many(api.MaxDeep-1, "a : ") + "(" + s + ")"
	}
	if x, f := Expr(s); f != (api.Fault{}) || tree.Deep(x) != 10*(api.MaxDeep-1)+2 || tree.RightExpr(x) {
		t.Error(f, tree.Deep(x))
	}
	l, f := Program("x = " + s + ";")
	if f != (api.Fault{}) || len(l) != 1 || tree.RightDecls(l, true) {
		t.Error(f, len(l))
	}
}
