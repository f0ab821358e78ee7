package parse

import (
	"fmt"
	"math/rand"
	"reflect"
	"slices"
	"strings"
	"testing"
	"unsafe"

	"hammock/api"
	"hammock/tree"
)

// P401.

// oddSources: what no source is like, always the same ones.
func oddSources() []string {
	random := rand.New(rand.NewSource(1))
	words := strings.Fields(`a b _ C T 1 'x' "y" ( ) [ ] { } , ; : + == && = | -> \ :: . case data else if in let of then`)
	l := []string{"", " ", "\x00", "\xff", "{-", "'", strings.Repeat("a", api.MaxSource+1)}
	for _, w := range words {
		l = append(l, many(5000, w+" "), many(16000, w)[:16000], many(200, w+" ")+"a", "x = "+many(300, w+" ")+";", "x :: "+many(300, w+" ")+";")
	}
	for range 20000 {
		var b strings.Builder
		for range random.Intn(30) {
			b.WriteString(words[random.Intn(len(words))] + " ")
		}
		l = append(l, b.String())
	}
	for range 5000 {
		b := make([]byte, random.Intn(20))
		for i := range b {
			b[i] = byte(random.Intn(256))
		}
		l = append(l, string(b))
	}
	return l
}

func TestAnySourceIsAnswered(t *testing.T) {
	for _, s := range oddSources() {
		l, f := Program(s)
		e, g := Expr(s)
		x, h := Type(s)
		for _, fault := range []api.Fault{f, g, h} {
			if fault.At < 0 || fault.At > len(s) || fault.E == api.OK && fault.At != 0 {
				t.Fatalf("%.100s: %v", s, fault)
			}
		}
		if f.E != api.OK && len(l) != 0 || g.E != api.OK && !reflect.ValueOf(e).IsZero() || h.E != api.OK && !reflect.ValueOf(x).IsZero() {
			t.Fatalf("%.100s: %v, %v, %v", s, l, e, x)
		}
		if f.E == api.OK && !tree.RightDecls(l, true) || h.E == api.OK && !tree.RightType(x) {
			t.Fatalf("%.100s: %v, %v", s, l, x)
		}
	}
}

// busySource: a program with each thing that a tree may have.
const busySource = `data T a b = C a [b] (a -> b) | D;
f :: T a b -> [a]; f (C x _ y) [1, 'a'] "b" (z : _) = x;
g = let { h :: Int; h x = [x, x] ++ y : []; } in \x (D) -> if x == 1 && y then case z of { C a b -> [a] b c; [d] -> "text"; } else (+) 'c' 2;`

func TestSameAnswerTwice(t *testing.T) {
	first, _ := Program(busySource)
	told := fmt.Sprint(first)
	spoil(reflect.ValueOf(first))
	for range 3 {
		again, f := Program(busySource)
		if fmt.Sprint(again) != told || f != (api.Fault{}) {
			t.Error(f, again)
		}
		for _, s := range []string{") (", "a", "let", "[1, 2"} {
			Expr(s)
			Type(s)
		}
	}
}

// spoil: overwrites all lists of an answer, and the room behind them.
func spoil(v reflect.Value) {
	eachList(v, func(l reflect.Value) {
		for i := range l.Cap() {
			l.Slice(0, l.Cap()).Index(i).SetZero()
		}
	})
}

// eachList: calls f with all lists in a tree, those within others first.
func eachList(v reflect.Value, f func(reflect.Value)) {
	switch v.Kind() {
	case reflect.Struct:
		for i := range v.NumField() {
			eachList(v.Field(i), f)
		}
	case reflect.Slice:
		for i := range v.Len() {
			eachList(v.Index(i), f)
		}
		f(v)
	}
}

func TestNoTwoListsShareMemory(t *testing.T) {
	type room struct{ from, to uintptr }
	var rooms []room
	for range 2 {
		l, _ := Program(busySource)
		e, _ := Expr("f [a, [b, c], [], 1 : 2 ++ d] (x y)")
		x, _ := Type("T a [b] (c -> d) -> e")
		for _, v := range []reflect.Value{reflect.ValueOf(l), reflect.ValueOf(e), reflect.ValueOf(x)} {
			eachList(v, func(l reflect.Value) {
				if l.Cap() > 0 {
					from := l.Pointer()
					rooms = append(rooms, room{from, from + uintptr(l.Cap())*l.Type().Elem().Size()})
				}
			})
		}
	}
	slices.SortFunc(rooms, func(a, b room) int { return int(a.from) - int(b.from) })
	for i := range len(rooms) - 1 {
		if rooms[i].to > rooms[i+1].from {
			t.Errorf("%v and %v", rooms[i], rooms[i+1])
		}
	}
	if len(rooms) < 100 {
		t.Errorf("just %d lists", len(rooms))
	}
}

func TestNoTextIsPartOfTheSource(t *testing.T) {
	s := strings.Clone(busySource)
	from := uintptr(unsafe.Pointer(unsafe.StringData(s)))
	l, _ := Program(s)
	eachValue(reflect.ValueOf(l), func(v reflect.Value, _ string) {
		if v.Kind() != reflect.String || v.Len() == 0 {
			return
		}
		text := v.String()
		if at := uintptr(unsafe.Pointer(unsafe.StringData(text))); from <= at && at < from+uintptr(len(s)) {
			t.Errorf("%s lies in the source", text)
		}
	})
}

// P404.

func TestBlanksChangeNothingButPlaces(t *testing.T) {
	for i := range int64(2000) {
		m := newMaker(i)
		m.program(3)
		for range m.Intn(3) {
			m.change()
		}
		narrow, from := laid(m.words, blank)
		wide, to := laid(m.words, m.gap)
		a, f := Program(narrow)
		b, g := Program(wide)
		if !tree.SameDecls(a, b) || f.E != g.E {
			t.Fatalf("%s: %v, %v; %s: %v, %v", narrow, a, f, wide, b, g)
		}
		if f.E != api.OK && slices.Index(from, f.At) != slices.Index(to, g.At) {
			t.Fatalf("%s: %v; %s: %v", narrow, f, wide, g)
		}
	}
}

// P405.

func TestProgramsOneBehindTheOther(t *testing.T) {
	for i := range int64(500) {
		var parts []string
		var all []tree.Decl
		for k := range int64(3) {
			m := newMaker(3*i + k)
			m.program(3)
			s, _ := laid(m.words, blank)
			l, f := Program(s)
			if f != (api.Fault{}) {
				t.Fatal(s, f)
			}
			parts, all = append(parts, s), append(all, l...)
		}
		s := strings.Join(parts, "")
		if l, f := Program(s); f != (api.Fault{}) || !tree.SameDecls(l, all) {
			t.Fatalf("%s: %v, %v", s, f, l)
		}
		wrong := parts[0] + ") " + parts[1]
		if _, f := Program(wrong); f != word(len(parts[0])) {
			t.Fatalf("%s: %v", wrong, f)
		}
	}
}
