package tree

import (
	"math/rand"
	"reflect"
	"strings"

	"hammock/api"
)

// maker: makes trees that may be, at random, always the same ones.
type maker struct{ *rand.Rand }

func newMaker(seed int64) maker { return maker{rand.New(rand.NewSource(seed))} }

func (m maker) of(words string) string {
	l := strings.Fields(words)
	return l[m.Intn(len(l))]
}

func (m maker) at() int { return m.Intn(1000) - 100 }

func (m maker) name() string { return m.of("a b c x y' foo_1 _z") }

func (m maker) con() string { return m.of("A Just Pair Con_2'") }

// listOf: from least to most things made.
func listOf[T any](m maker, least, most int, f func() T) []T {
	l := make([]T, least+m.Intn(most-least+1))
	for i := range l {
		l[i] = f()
	}
	if len(l) == 0 && m.Intn(2) == 0 {
		return nil
	}
	return l
}

func (m maker) typ(deep int) Type {
	part := func() Type { return m.typ(deep - 1) }
	switch m.Intn(5) {
	case 1:
		if deep > 0 {
			return Type{TFun, m.at(), "", listOf(m, 2, 2, part)}
		}
	case 2:
		if deep > 0 {
			return Type{TCon, m.at(), "[]", listOf(m, 1, 1, part)}
		}
	case 3:
		return Type{TCon, m.at(), m.con(), listOf(m, 0, min(deep, 3), part)}
	}
	return Type{TVar, m.at(), m.name(), nil}
}

func (m maker) pat(deep int) Pat {
	part := func() Pat { return m.pat(deep - 1) }
	switch m.Intn(8) {
	case 0:
		return Pat{Kind: PAny, At: m.at()}
	case 1:
		return Pat{Kind: PNum, At: m.at(), N: m.Intn(1000)}
	case 2:
		return Pat{Kind: PChr, At: m.at(), N: m.Intn(256)}
	case 3:
		return Pat{Kind: PStr, At: m.at(), Name: m.of("text \x00 \" _")}
	case 4:
		return Pat{Kind: PMake, At: m.at(), Name: "[]"}
	case 5:
		if deep > 0 {
			return Pat{Kind: PMake, At: m.at(), Name: ":", Args: listOf(m, 2, 2, part)}
		}
	case 6:
		return Pat{Kind: PMake, At: m.at(), Name: m.con(), Args: listOf(m, 0, min(deep, 3), part)}
	}
	return Pat{Kind: PBind, At: m.at(), Name: m.name()}
}

func (m maker) expr(deep int) Expr {
	part := func() Expr { return m.expr(deep - 1) }
	pat := func() Pat { return m.pat(2) }
	e := Expr{At: m.at()}
	if deep == 0 {
		switch e.Kind = 1 + m.Intn(5); e.Kind {
		case EName:
			e.Name = m.of("x y f + - * / % == /= < <= > >= && || ++")
		case ECon:
			e.Name = m.of("A Just : []")
		case EInt:
			e.N = m.Intn(1000)
		case EChar:
			e.N = m.Intn(256)
		case EText:
			e.Name = m.of("text \x00 \" _")
		}
		return e
	}
	switch e.Kind = 5 + m.Intn(6); e.Kind {
	case EText:
		return part()
	case ECall:
		e.Args = listOf(m, 2, 2, part)
	case ELam:
		e.Args, e.Pats = listOf(m, 1, 1, part), listOf(m, 1, 3, pat)
	case ELet:
		e.Args, e.Decls = listOf(m, 1, 1, part), m.decls(deep-1, false)
	case EIf:
		e.Args = listOf(m, 3, 3, part)
	case ECase:
		e.Args, e.Alts = listOf(m, 1, 1, part), listOf(m, 1, 3, func() Alt { return Alt{pat(), part()} })
	}
	return e
}

func (m maker) decls(deep int, top bool) []Decl {
	typ := func() Type { return m.typ(2) }
	return listOf(m, 0, 3, func() Decl {
		switch m.Intn(4) {
		case 0:
			if top {
				cons := func() Cons { return Cons{m.at(), m.con(), listOf(m, 0, 2, typ)} }
				vars := []string{"a", "b", "c"}[:m.Intn(4)]
				return Decl{Kind: DData, At: m.at(), Name: m.con(), Vars: vars, Cons: listOf(m, 1, 3, cons)}
			}
		case 1:
			return Decl{Kind: DSig, At: m.at(), Name: m.name(), Type: typ()}
		}
		pat := func() Pat { return m.pat(2) }
		return Decl{Kind: DDef, At: m.at(), Name: m.name(), Pats: listOf(m, 0, 2, pat), Body: m.expr(deep)}
	})
}

// cloned: the same in new memory, with a list of nothing as it was.
func cloned[T any](x T) T {
	v := reflect.New(reflect.TypeFor[T]()).Elem()
	copyValue(v, reflect.ValueOf(&x).Elem())
	return v.Interface().(T)
}

func copyValue(to, from reflect.Value) {
	switch from.Kind() {
	case reflect.Struct:
		for i := range from.NumField() {
			copyValue(to.Field(i), from.Field(i))
		}
	case reflect.Slice:
		if from.IsNil() {
			return
		}
		to.Set(reflect.MakeSlice(from.Type(), from.Len(), from.Len()))
		for i := range from.Len() {
			copyValue(to.Index(i), from.Index(i))
		}
	default:
		to.Set(from)
	}
}

// field: a place in a tree that can be changed: a number, a text, or a list.
type field struct {
	reflect.Value
	isAt bool
}

// fieldsOf: all fields of what a pointer points to.
func fieldsOf(pointer any) []field {
	return putFields(nil, reflect.ValueOf(pointer).Elem(), false)
}

func putFields(l []field, v reflect.Value, isAt bool) []field {
	switch v.Kind() {
	case reflect.Struct:
		for i := range v.NumField() {
			l = putFields(l, v.Field(i), v.Type().Field(i).Name == "At")
		}
		return l
	case reflect.Slice:
		for i := range v.Len() {
			l = putFields(l, v.Index(i), false)
		}
	}
	return append(l, field{v, isAt})
}

// changes: what a field may be changed to.
func (f field) changes() []reflect.Value {
	var l []reflect.Value
	switch f.Kind() {
	case reflect.Int:
		for _, n := range []int64{-1, 0, 1, 2, 3, 6, 8, 255, 256, f.Int() + 1} {
			if n != f.Int() {
				l = append(l, reflect.ValueOf(int(n)))
			}
		}
	case reflect.String:
		for _, s := range []string{"", "_", "v", "V", ":", "[]", "=", "+", "let", "a b", f.String() + "'"} {
			if s != f.String() {
				l = append(l, reflect.ValueOf(s))
			}
		}
	case reflect.Slice:
		one := reflect.New(f.Type().Elem()).Elem()
		longer := reflect.MakeSlice(f.Type(), f.Len()+1, f.Len()+1)
		reflect.Copy(longer, f.Value)
		l = append(l, longer)
		if f.Len() > 0 {
			again := reflect.MakeSlice(f.Type(), f.Len(), f.Len())
			reflect.Copy(again, f.Value)
			again.Index(f.Len() - 1).Set(one)
			l = append(l, f.Slice(0, f.Len()-1), f.Slice(1, f.Len()), reflect.Append(longer.Slice(0, f.Len()), f.Index(0)))
			if !f.Index(f.Len() - 1).IsZero() {
				l = append(l, again)
			}
		}
	}
	return l
}

// eachChange: calls f while one field of what a pointer points to is changed, for each field and each change.
func eachChange(pointer any, f func(isAt bool)) {
	for _, x := range fieldsOf(pointer) {
		for _, to := range x.changes() {
			was := reflect.New(x.Type()).Elem()
			was.Set(x.Value)
			x.Set(to)
			f(x.isAt)
			x.Set(was)
		}
	}
}

// moved: the same in other places, a list of nothing now nil and now empty.
func moved[T any](m maker, x T) T {
	x = cloned(x)
	for _, f := range fieldsOf(&x) {
		switch {
		case f.isAt:
			f.SetInt(int64(m.Uint64()))
		case f.Kind() == reflect.Slice && f.Len() == 0 && f.IsNil():
			f.Set(reflect.MakeSlice(f.Type(), 0, 3))
		case f.Kind() == reflect.Slice && f.Len() == 0:
			f.SetZero()
		}
	}
	return x
}

// Trees of a given depth, each by another way down.

func typeChains(deep int) []Type {
	leaf := Type{Kind: TVar, Name: "a"}
	return chains(deep, leaf,
		func(t Type) Type { return Type{Kind: TFun, Args: []Type{t, leaf}} },
		func(t Type) Type { return Type{Kind: TFun, Args: []Type{leaf, t}} },
		func(t Type) Type { return Type{Kind: TCon, Name: "[]", Args: []Type{t}} },
		func(t Type) Type { return Type{Kind: TCon, Name: "T", Args: []Type{leaf, leaf, t}} })
}

func patChains(deep int) []Pat {
	leaf := Pat{Kind: PBind, Name: "a"}
	return chains(deep, leaf,
		func(p Pat) Pat { return Pat{Kind: PMake, Name: ":", Args: []Pat{p, leaf}} },
		func(p Pat) Pat { return Pat{Kind: PMake, Name: ":", Args: []Pat{leaf, p}} },
		func(p Pat) Pat { return Pat{Kind: PMake, Name: "C", Args: []Pat{p}} })
}

func exprChains(deep int) []Expr {
	leaf := Expr{Kind: EName, Name: "a"}
	anything := Pat{Kind: PAny}
	return chains(deep, leaf,
		func(e Expr) Expr { return Expr{Kind: ECall, Args: []Expr{e, leaf}} },
		func(e Expr) Expr { return Expr{Kind: ECall, Args: []Expr{leaf, e}} },
		func(e Expr) Expr { return Expr{Kind: ELam, Pats: []Pat{anything}, Args: []Expr{e}} },
		func(e Expr) Expr { return Expr{Kind: ELet, Args: []Expr{e}} },
		func(e Expr) Expr {
			return Expr{Kind: ELet, Decls: []Decl{{Kind: DDef, Name: "a", Body: e}}, Args: []Expr{leaf}}
		},
		func(e Expr) Expr { return Expr{Kind: EIf, Args: []Expr{leaf, leaf, e}} },
		func(e Expr) Expr { return Expr{Kind: ECase, Args: []Expr{e}, Alts: []Alt{{anything, leaf}}} },
		func(e Expr) Expr {
			return Expr{Kind: ECase, Args: []Expr{leaf}, Alts: []Alt{{anything, leaf}, {anything, e}}}
		})
}

// chains: a leaf, deep-1 times within, for each way.
func chains[T any](deep int, leaf T, ways ...func(T) T) []T {
	var l []T
	for _, way := range ways {
		x := leaf
		for range deep - 1 {
			x = way(x)
		}
		l = append(l, x)
	}
	return l
}

// longName: a name of the most bytes.
var longName = strings.Repeat("n", api.MaxName)
