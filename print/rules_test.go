package print

import (
	"math"
	"reflect"
	"runtime/debug"
	"slices"
	"strings"
	"testing"
	"unsafe"

	"hammock/api"
	"hammock/tree"
)

// P501.

// cloned: the same in new memory; a list of nothing is as it was.
func cloned[T any](x T) T { return changed(x, func(reflect.Value, string) {}) }

// moved: the same in other places; a list of nothing is empty where it was nil, and nil where it was empty.
func moved[T any](x T) T {
	at := int64(0)
	return changed(x, func(v reflect.Value, field string) {
		switch {
		case field == "At":
			at = at*31 + 7
			v.SetInt(at)
		case v.Kind() == reflect.Slice && v.Len() == 0 && v.IsNil():
			v.Set(reflect.MakeSlice(v.Type(), 0, 3))
		case v.Kind() == reflect.Slice && v.Len() == 0:
			v.SetZero()
		}
	})
}

// changed: a copy, in which each value was handed to a function, with the name of the field that it is.
func changed[T any](x T, f func(reflect.Value, string)) T {
	v := reflect.New(reflect.TypeFor[T]()).Elem()
	copyValue(v, reflect.ValueOf(&x).Elem(), "", f)
	return v.Interface().(T)
}

func copyValue(to, from reflect.Value, field string, f func(reflect.Value, string)) {
	switch from.Kind() {
	case reflect.Struct:
		for i := range from.NumField() {
			copyValue(to.Field(i), from.Field(i), from.Type().Field(i).Name, f)
		}
		return
	case reflect.Slice:
		if !from.IsNil() {
			to.Set(reflect.MakeSlice(from.Type(), from.Len(), from.Len()))
		}
		for i := range from.Len() {
			copyValue(to.Index(i), from.Index(i), "", f)
		}
	default:
		to.Set(from)
	}
	f(to, field)
}

func TestNothingHandedInIsChanged(t *testing.T) {
	for i := range int64(300) {
		m := newMaker(i)
		ty, p, e := m.typ(3), m.pat(3), m.expr(3)
		l := slices.Grow(m.decls(2, true), 3)
		tyWas, pWas, eWas, lWas := cloned(ty), cloned(p), cloned(e), cloned(l)
		var first []string
		for range 3 {
			a, _ := Type(ty)
			b, _ := Pat(p)
			c, _ := Expr(e)
			d, _ := Decls(l)
			if first == nil {
				first = []string{a, b, c, d}
			}
			if !slices.Equal(first, []string{a, b, c, d}) {
				t.Fatalf("%q, not %q", []string{a, b, c, d}, first)
			}
			// What else is printed, or may not be, changes nothing.
			Expr(tree.Expr{})
			Expr(longExpr(api.MaxSource + 1))
		}
		if !reflect.DeepEqual(ty, tyWas) || !reflect.DeepEqual(p, pWas) || !reflect.DeepEqual(e, eWas) || !reflect.DeepEqual(l, lWas) {
			t.Fatalf("%v, not %v", e, eWas)
		}
		for _, d := range l[len(l):cap(l)] {
			if !reflect.DeepEqual(d, tree.Decl{}) {
				t.Fatalf("%v in the room behind", d)
			}
		}
	}
}

func TestTextsAreNewMemory(t *testing.T) {
	s := strings.Repeat("n", 8)
	for range 2 {
		var texts []string
		a, _ := Type(tvar(s))
		b, _ := Pat(bind(s))
		c, _ := Expr(name(s))
		d, _ := Expr(name(s))
		texts = append(texts, s, a, b, c, d)
		for i := range texts {
			for _, other := range texts[:i] {
				if texts[i] != s || unsafe.StringData(texts[i]) == unsafe.StringData(other) {
					t.Errorf("%d: %q", i, texts[i])
				}
			}
		}
	}
}

func TestAnyTreeIsAnswered(t *testing.T) {
	numbers := []int{math.MinInt, -1, 0, 1, 2, 3, 4, 5, 6, 7, 8, 9, 10, 11, 255, 256, math.MaxInt}
	for _, kind := range numbers {
		for _, n := range numbers {
			for _, s := range []string{"", "a", "A", "_", ":", "[]", "+", "=", "let", "\x00", strings.Repeat("a", 300)} {
				for k := range 4 {
					ty := tree.Type{Kind: kind, At: n, Name: s, Args: slices.Repeat([]tree.Type{tvar("a")}, k)}
					p := tree.Pat{Kind: kind, At: n, Name: s, N: n, Args: slices.Repeat([]tree.Pat{bind("a")}, k)}
					d := tree.Decl{Kind: kind, At: n, Name: s, Vars: slices.Repeat([]string{s}, k), Cons: slices.Repeat([]tree.Cons{{Name: s}}, k), Type: ty, Pats: slices.Repeat([]tree.Pat{p}, k), Body: tree.Expr{Kind: kind}}
					e := tree.Expr{Kind: kind, At: n, Name: s, N: n, Args: slices.Repeat([]tree.Expr{name("a")}, k), Pats: d.Pats}
					answered(t, types(), ty, tree.RightType(ty))
					answered(t, pats(), p, tree.RightPat(p))
					answered(t, exprs(), e, tree.RightExpr(e))
					for _, l := range [][]tree.Decl{{d}, {{Kind: kind, Name: s, Type: ty}}, {{Kind: kind, Name: s, Pats: d.Pats, Body: e}}, {{Kind: kind, Name: s, Vars: d.Vars, Cons: d.Cons}}} {
						answered(t, decls(), l, tree.RightDecls(l, true))
					}
				}
			}
		}
	}
}

// answered: a text that is read again, if it may be; else ErrArg.
func answered[T any](t *testing.T, f face[T], x T, right bool) {
	t.Helper()
	if right {
		f.again(t, x)
		return
	}
	s, e := f.print(x)
	wrong(t, x, api.ErrArg, s, e)
}

// Trees that are far too deep are answered with a stack that is far too small for a function that goes down to their leaves.
func TestNoTreeIsTooDeepForTheStack(t *testing.T) {
	const deep = 100000
	defer debug.SetMaxStack(debug.SetMaxStack(1 << 20))
	got, e := Type(nested(deep, tvar("a"), func(x tree.Type) tree.Type { return tfun(x, tvar("a")) }))
	wrong(t, "type", api.ErrArg, got, e)
	got, e = Pat(nested(deep, bind("a"), func(x tree.Pat) tree.Pat { return pmake("C", x) }))
	wrong(t, "pattern", api.ErrArg, got, e)
	x := nested(deep, name("a"), func(x tree.Expr) tree.Expr { return choice(name("a"), name("a"), x) })
	got, e = Expr(x)
	wrong(t, "expression", api.ErrArg, got, e)
	got, e = Decls([]tree.Decl{def("f", x)})
	wrong(t, "declaration", api.ErrArg, got, e)
}
