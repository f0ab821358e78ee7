package parse

import (
	"fmt"
	"slices"
	"strings"
	"testing"

	"hammock/api"
	"hammock/token"
	"hammock/tree"
)

// P402: random sources are read as the trees that they were made from. P403: what is told may be. P404: whatever stands between the words.

func TestMadePrograms(t *testing.T) {
	readAsMade(t, (*maker).program, Program, func(l []tree.Decl) bool { return tree.RightDecls(l, true) })
}

func TestMadeExprs(t *testing.T) { readAsMade(t, (*maker).expr, Expr, tree.RightExpr) }

func TestMadeTypes(t *testing.T) { readAsMade(t, (*maker).typ, Type, tree.RightType) }

func readAsMade[T any](t *testing.T, make func(*maker, int) T, read func(string) (T, api.Fault), right func(T) bool) {
	for i := range int64(2000) {
		for _, wide := range []bool{false, true} {
			m := newMaker(i)
			want := make(m, int(i%7))
			gap := blank
			if wide {
				gap = m.gap
			}
			s, places := laid(m.words, gap)
			setPlaces(&want, places)
			// Told as texts, a list of nothing is no list.
			if got, f := read(s); f != (api.Fault{}) || fmt.Sprint(got) != fmt.Sprint(want) || !right(got) {
				t.Fatalf("%s: %v, %v, not %v", s, f, got, want)
			}
		}
	}
}

// P402: the place of the first word that is wrong.

func TestEachSmallSource(t *testing.T) {
	m := newModel()
	for _, x := range []struct {
		start, words string
		most         int
	}{
		{"expr", `a + == && ( )`, 7},
		{"expr", `a < : || == _`, 7},
		{"expr", `a [ , ] ( + )`, 6},
		{"expr", `\ a _ -> + ==`, 8},
		{"expr", `a \ -> case of { ; } <`, 10},
		{"expr", `let { a = ; } in :: +`, 8},
		{"expr", `if a then else + ==`, 8},
		{"expr", `a C 1 'a' "(" ( ) = | -> . :: data in : ;`, 3},
		{"type", `a T _ -> [ ] ( )`, 6},
		{"type", `a -> 1 "[" T = , ; data`, 4},
		{"program", `a C = _ ( ) : ;`, 6},
		{"program", `a :: T -> ; = data`, 7},
		{"program", `data T a b _ = | ;`, 8},
		{"program", `data T = C ; [ ( ] )`, 8},
		{"program", `a [ , ] 1 "b" = ;`, 7},
	} {
		c := smallChecker{t, m, x.start, strings.Fields(x.words), 0, 0}
		c.from(m.begin(x.start), nil, x.most)
		if c.good < 5 || c.bad < 100 {
			t.Errorf("%s %s: %d good, %d bad", x.start, x.words, c.good, c.bad)
		}
	}
}

// smallChecker: goes through all sources of some words up to the first wrong one.
type smallChecker struct {
	*testing.T
	model
	start     string
	words     []string
	good, bad int
}

func (c *smallChecker) from(a ahead, words []string, most int) {
	ahead := strings.Join(append(words, ""), " ")
	c.source(c.step(a, token.Token{Kind: token.End}), ahead, len(ahead))
	if most == 0 {
		return
	}
	for _, w := range c.words {
		l, _ := token.Scan(w)
		if next := c.step(a, l[0]); len(next) == 0 {
			c.source(next, ahead+w+" ) a", len(ahead))
		} else {
			c.from(next, append(slices.Clip(words), w), most-1)
		}
	}
}

// source: is it read as what is ahead behind the word at that place says?
func (c *smallChecker) source(next ahead, s string, at int) {
	want := api.Fault{}
	if len(next) == 0 {
		c.bad++
		want = word(at)
	} else {
		c.good++
	}
	if f := faultOf(c.start, s); f != want {
		c.Fatalf("%s: %v, not %v", s, f, want)
	}
}

func TestChangedSources(t *testing.T) {
	good, bad := 0, 0
	for i := range int64(6000) {
		m := newMaker(i)
		start := []string{"program", "expr", "type"}[i%3]
		switch start {
		case "program":
			m.program(3)
		case "expr":
			m.expr(4)
		case "type":
			m.typ(4)
		}
		for range 1 + m.Intn(2) {
			m.change()
		}
		s, _ := laid(m.words, m.gap)
		l, _ := token.Scan(s)
		want := api.Fault{}
		if n := newModel().wrong(start, l); n < len(l) {
			bad++
			want = word(l[n].At)
		} else {
			good++
		}
		if f := faultOf(start, s); f != want {
			t.Fatalf("%s: %v, not %v", s, f, want)
		}
	}
	if good < 500 || bad < 500 {
		t.Errorf("%d good, %d bad", good, bad)
	}
}

// change: takes a word away, or puts one in.
func (m *maker) change() {
	at := m.Intn(len(m.words) + 1)
	if at < len(m.words) && m.chance(2) {
		m.words = slices.Delete(m.words, at, at+1)
		return
	}
	some := m.of(`a b _ C T 1 'x' "y" ( ) [ ] { } , ; : + - * == < && || ++ = | -> \ :: . case data else if in let of then`)
	m.words = slices.Insert(m.words, at, some)
}
