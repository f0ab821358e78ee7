package parse

import (
	"reflect"
	"testing"

	"hammock/api"
	"hammock/tree"
)

// P402: the trees of sources, and their places.

func TestTypes(t *testing.T) {
	for s, want := range map[string]string{
		"a":                     "a@0",
		" a' ":                  "a'@1",
		"_a":                    "_a@0",
		"Int":                   "Int@0()",
		"(((a)))":               "a@3",
		"a -> b":                "->@2(a@0 b@5)",
		"a->b->c":               "->@1(a@0 ->@4(b@3 c@6))",
		"(a -> b) -> c":         "->@9(->@3(a@1 b@6) c@12)",
		"[a]":                   "[]@0(a@1)",
		"[[a -> b]]":            "[]@0([]@1(->@4(a@2 b@7)))",
		"T a B":                 "T@0(a@2 B@4())",
		"T U V":                 "T@0(U@2() V@4())",
		"T [a] (b -> c) (U d)":  "T@0([]@2(a@3) ->@9(b@7 c@12) U@16(d@18))",
		"T a -> U b":            "->@4(T@0(a@2) U@7(b@9))",
		"Pair a (Pair a b)":     "Pair@0(a@5 Pair@8(a@13 b@15))",
		"{- x -} T -- y\n a":    "T@8(a@16)",
		"a -> (b -> c) -> [Ab]": "->@2(a@0 ->@14(->@8(b@6 c@11) []@17(Ab@18())))",
	} {
		if x, f := Type(s); showType(x) != want || f != (api.Fault{}) || !tree.RightType(x) {
			t.Errorf("%s: %s, %v, not %s", s, showType(x), f, want)
		}
	}
}

func TestAtomsAndCalls(t *testing.T) {
	exprsAre(t, map[string]string{
		"x":           "x@0",
		" x ":         "x@1",
		"_x'":         "_x'@0",
		"Con'":        "con Con'@0",
		"0":           "0@0",
		"007":         "7@0",
		"'a'":         "'a'@0",
		`'\xff'`:      "'ÿ'@0",
		`'\x00'`:      `'\x00'@0`,
		`""`:          `""@0`,
		`"a\n\"("`:    `"a\n\"("@0`,
		" ( ( x ) )":  "x@5",
		"(+)":         "+@1",
		"( ++ )":      "++@2",
		"(:)":         "con :@1",
		"(||)":        "||@1",
		"[]":          "con []@0",
		"[1]":         "((con :@0 1@1)@0 con []@0)@0",
		" [1, x y]":   "((con :@1 1@2)@1 ((con :@1 (x@5 y@7)@5)@1 con []@1)@1)@1",
		"[[a]]":       "((con :@0 ((con :@1 a@2)@1 con []@1)@1)@0 con []@0)@0",
		"[a + b]":     "((con :@0 ((+@3 a@1)@3 b@5)@3)@0 con []@0)@0",
		"[\\x -> x]":  "((con :@0 lam@1(x@2 -> x@7))@0 con []@0)@0",
		"f x":         "(f@0 x@2)@0",
		"f x 1":       "((f@0 x@2)@0 1@4)@0",
		"f (g x) y":   "((f@0 (g@3 x@5)@3)@0 y@8)@0",
		"(f x) y":     "((f@1 x@3)@1 y@6)@1",
		"C 'a' \"b\"": `((con C@0 'a'@2)@0 "b"@6)@0`,
		"1 x":         "(1@0 x@2)@0",
		"(a + b) c":   "(((+@3 a@1)@3 b@5)@3 c@8)@3",
		"[a] b":       "(((con :@0 a@1)@0 con []@0)@0 b@4)@0",
		"(+) a b":     "((+@1 a@4)@1 b@6)@1",
	})
}

func TestRuns(t *testing.T) {
	exprsAre(t, map[string]string{
		"a + b":                     "((+@2 a@0)@2 b@4)@2",
		"a:b":                       "((con :@1 a@0)@1 b@2)@1",
		"f a*g b":                   "((*@3 (f@0 a@2)@0)@3 (g@4 b@6)@4)@3",
		"1-1":                       "((-@1 1@0)@1 1@2)@1",
		"a < b && c < d || e":       "((||@15 ((&&@6 ((<@2 a@0)@2 b@4)@2)@6 ((<@11 c@9)@11 d@13)@11)@6)@15 e@18)@15",
		"a < (b < c)":               "((<@2 a@0)@2 ((<@7 b@5)@7 c@9)@7)@2",
		"a == \\x -> x == b":        "((==@2 a@0)@2 lam@5(x@6 -> ((==@13 x@11)@13 b@16)@13))@2",
		"a + \\x -> x + b":          "((+@2 a@0)@2 lam@4(x@5 -> ((+@12 x@10)@12 b@14)@12))@2",
		"a:if b then c else d:e":    "((con :@1 a@0)@1 if@2(b@5 c@12 ((con :@20 d@19)@20 e@21)@20))@1",
		"a - let { } in b - c":      "((-@2 a@0)@2 let@4{}(((-@17 b@15)@17 c@19)@17))@2",
		"case x of { _ -> c; }":     "case@0(x@5){_@12 -> c@17;}",
		"a - case b of {_->c;} - d": "((-@22 ((-@2 a@0)@2 case@4(b@9){_@15 -> c@18;})@2)@22 d@24)@22",
		// A form that is no run ends with its brace: what follows belongs to the run around it.
		"a - \\x -> case b of {_->c;} - d":     "((-@28 ((-@2 a@0)@2 lam@4(x@5 -> case@10(b@15){_@21 -> c@24;}))@2)@28 d@30)@28",
		"a - \\x -> e - case b of {_->c;} - d": "((-@2 a@0)@2 lam@4(x@5 -> ((-@32 ((-@12 e@10)@12 case@14(b@19){_@25 -> c@28;})@12)@32 d@34)@32))@2",
	})
}

func TestForms(t *testing.T) {
	exprsAre(t, map[string]string{
		"\\x -> x":                      "lam@0(x@1 -> x@6)",
		"\\ x _ (C y) -> 1":             "lam@0(x@2 _@4 C@7(y@9) -> 1@15)",
		"\\x->\\y->x y":                 "lam@0(x@1 -> lam@4(y@5 -> (x@8 y@10)@8))",
		"\\x -> x + 1":                  "lam@0(x@1 -> ((+@8 x@6)@8 1@10)@8)",
		"let { } in x":                  "let@0{}(x@11)",
		"let{x=1;}in x+y":               "let@0{x@4() = 1@6;}(((+@13 x@12)@13 y@14)@13)",
		"let { x :: T; f a = a; } in f": "let@0{x@6 :: T@11(); f@14(a@16) = a@20;}(f@28)",
		"if a then b else c":            "if@0(a@3 b@10 c@17)",
		"if a b then c else d + e":      "if@0((a@3 b@5)@3 c@12 ((+@21 d@19)@21 e@23)@21)",
		"case f x of{A->1;_->\\y->y;}":  "case@0((f@5 x@7)@5){A@12() -> 1@15; _@17 -> lam@20(y@21 -> y@24);}",
	})
}

// exprsAre: is each expression read as it should?
func exprsAre(t *testing.T, table map[string]string) {
	for s, want := range table {
		if x, f := Expr(s); showExpr(x) != want || f != (api.Fault{}) || !tree.RightExpr(x) {
			t.Errorf("%s: %s, %v, not %s", s, showExpr(x), f, want)
		}
	}
}

func TestPats(t *testing.T) {
	const ahead, behind = "case 0 of { ", " -> 0; }"
	for s, want := range map[string]string{
		"x":                 "x@0",
		"_":                 "_@0",
		"_x":                "_x@0",
		"12":                "12@0",
		"'a'":               "'a'@0",
		`"a b"`:             `"a b"@0`,
		"C":                 "C@0()",
		"C x _":             "C@0(x@2 _@4)",
		"C D (E 1) 'b'":     "C@0(D@2() E@5(1@7) 'b'@10)",
		"((x))":             "x@2",
		"x : y":             ":@2(x@0 y@4)",
		"C x : D : []":      ":@4(C@0(x@2) :@8(D@6() []@10()))",
		"(x : y) : z":       ":@8(:@3(x@1 y@5) z@10)",
		"[]":                "[]@0()",
		"[x]":               ":@0(x@1 []@0())",
		"[1, C x, y : _]":   ":@0(1@1 :@0(C@4(x@6) :@0(:@11(y@9 _@13) []@0())))",
		"C [] [x] (y : [])": "C@0([]@2() :@5(x@6 []@5()) :@12(y@10 []@14()))",
		`["a", "b"]`:        `:@0("a"@1 :@0("b"@6 []@0()))`,
	} {
		x, f := Expr(ahead + s + behind)
		if f != (api.Fault{}) {
			t.Errorf("%s: %v", s, f)
			continue
		}
		p := x.Alts[0].Pat
		if right := tree.RightPat(p); !right {
			t.Errorf("%s: %v", s, p)
		}
		eachValue(reflect.ValueOf(&x.Alts[0].Pat).Elem(), func(v reflect.Value, name string) {
			if name == "At" {
				v.SetInt(v.Int() - int64(len(ahead)))
			}
		})
		if got := showPat(x.Alts[0].Pat); got != want {
			t.Errorf("%s: %s, not %s", s, got, want)
		}
	}
}

func TestDecls(t *testing.T) {
	for s, want := range map[string]string{
		"":                                      "",
		" -- nothing\n":                         "",
		"x = 1;":                                "x@0() = 1@4;",
		"f x _ (A 1)=x;":                        "f@0(x@2 _@4 A@7(1@9)) = x@12;",
		"f :: a -> T;":                          "f@0 :: ->@7(a@5 T@10());",
		"f C D = E;":                            "f@0(C@2() D@4()) = con E@8;",
		"data T = C;":                           "data T@5() = C@9();",
		"data T a b = C a B | D [a];":           "data T@5(a b) = C@13(a@15 B@17()) D@21([]@23(a@24));",
		"data T = C (a -> b) (U c);":            "data T@5() = C@9(->@14(a@12 b@17) U@21(c@23));",
		"x=1;x=2;y::a;":                         "x@0() = 1@2; x@4() = 2@6; y@8 :: a@11;",
		"f = f; data T = T; g = g;":             "f@0() = f@4; data T@12() = T@16(); g@19() = g@23;",
		"f = let { g [] = 1; } in g;":           "f@0() = let@4{g@10([]@12()) = 1@17;}(g@25);",
		"f = \\x -> x; g = if a then b else c;": "f@0() = lam@4(x@5 -> x@10); g@13() = if@17(a@20 b@27 c@34);",
	} {
		if l, f := Program(s); showDecls(l) != want || f != (api.Fault{}) || !tree.RightDecls(l, true) {
			t.Errorf("%s: %s, %v, not %s", s, showDecls(l), f, want)
		}
	}
}

// P402: how operators hold.

// Each pair of operators, told by a table of its own of the operators that hold tighter than another one.
func TestEachTwoOperators(t *testing.T) {
	rows := [][]string{{"||"}, {"&&"}, {"==", "/=", "<", "<=", ">", ">="}, {":", "++"}, {"+", "-"}, {"*", "/", "%"}}
	for i, row := range rows {
		for _, a := range row {
			for j, other := range rows {
				for _, b := range other {
					s := "x " + a + " y " + b + " z"
					left, right := "(x "+a+" y) "+b+" z", "x "+a+" (y "+b+" z)"
					want, other := right, left
					if i > j || i == j && i >= 4 {
						want, other = left, right
					}
					got, f := Expr(s)
					if i == 2 && j == 2 {
						if f != word(len("x "+a+" y ")) {
							t.Errorf("%s: %v", s, f)
						}
						continue
					}
					same, _ := Expr(want)
					unlike, _ := Expr(other)
					if f != (api.Fault{}) || !tree.SameExpr(got, same) || tree.SameExpr(got, unlike) {
						t.Errorf("%s: %s, %v", s, showExpr(got), f)
					}
				}
			}
		}
	}
}
