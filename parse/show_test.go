package parse

import (
	"fmt"
	"reflect"
	"strings"

	"hammock/api"
	"hammock/tree"
)

// word: a fault of E ErrWord.
func word(at int) api.Fault { return api.Fault{At: at, E: api.ErrWord} }

// faultOf: the fault of a source as the test names it: program, expr or type.
func faultOf(start, s string) api.Fault {
	var f api.Fault
	switch start {
	case "program":
		_, f = Program(s)
	case "expr":
		_, f = Expr(s)
	case "type":
		_, f = Type(s)
	default:
		panic(start)
	}
	return f
}

// showEach: what is told of each, parted by blanks.
func showEach[T any](l []T, show func(T) string) string {
	var all []string
	for _, x := range l {
		all = append(all, show(x))
	}
	return strings.Join(all, " ")
}

func showType(t tree.Type) string {
	args := showEach(t.Args, showType)
	switch t.Kind {
	case tree.TVar:
		return fmt.Sprintf("%s@%d", t.Name, t.At)
	case tree.TCon:
		return fmt.Sprintf("%s@%d(%s)", t.Name, t.At, args)
	case tree.TFun:
		return fmt.Sprintf("->@%d(%s)", t.At, args)
	}
	return fmt.Sprint(t)
}

func showPat(p tree.Pat) string {
	switch p.Kind {
	case tree.PAny:
		return fmt.Sprintf("_@%d", p.At)
	case tree.PBind:
		return fmt.Sprintf("%s@%d", p.Name, p.At)
	case tree.PNum:
		return fmt.Sprintf("%d@%d", p.N, p.At)
	case tree.PChr:
		return fmt.Sprintf("%q@%d", rune(p.N), p.At)
	case tree.PStr:
		return fmt.Sprintf("%q@%d", p.Name, p.At)
	case tree.PMake:
		return fmt.Sprintf("%s@%d(%s)", p.Name, p.At, showEach(p.Args, showPat))
	}
	return fmt.Sprint(p)
}

func showAlt(a tree.Alt) string { return showPat(a.Pat) + " -> " + showExpr(a.Body) + ";" }

func showExpr(e tree.Expr) string {
	args, pats := showEach(e.Args, showExpr), showEach(e.Pats, showPat)
	switch e.Kind {
	case tree.EName:
		return fmt.Sprintf("%s@%d", e.Name, e.At)
	case tree.ECon:
		return fmt.Sprintf("con %s@%d", e.Name, e.At)
	case tree.EInt:
		return fmt.Sprintf("%d@%d", e.N, e.At)
	case tree.EChar:
		return fmt.Sprintf("%q@%d", rune(e.N), e.At)
	case tree.EText:
		return fmt.Sprintf("%q@%d", e.Name, e.At)
	case tree.ECall:
		return fmt.Sprintf("(%s)@%d", args, e.At)
	case tree.ELam:
		return fmt.Sprintf("lam@%d(%s -> %s)", e.At, pats, args)
	case tree.ELet:
		return fmt.Sprintf("let@%d{%s}(%s)", e.At, showEach(e.Decls, showDecl), args)
	case tree.EIf:
		return fmt.Sprintf("if@%d(%s)", e.At, args)
	case tree.ECase:
		return fmt.Sprintf("case@%d(%s){%s}", e.At, args, showEach(e.Alts, showAlt))
	}
	return fmt.Sprint(e)
}

func showCons(c tree.Cons) string {
	return fmt.Sprintf("%s@%d(%s)", c.Name, c.At, showEach(c.Args, showType))
}

func showDecl(d tree.Decl) string {
	switch d.Kind {
	case tree.DData:
		return fmt.Sprintf("data %s@%d(%s) = %s;", d.Name, d.At, strings.Join(d.Vars, " "), showEach(d.Cons, showCons))
	case tree.DSig:
		return fmt.Sprintf("%s@%d :: %s;", d.Name, d.At, showType(d.Type))
	case tree.DDef:
		return fmt.Sprintf("%s@%d(%s) = %s;", d.Name, d.At, showEach(d.Pats, showPat), showExpr(d.Body))
	}
	return fmt.Sprint(d)
}

func showDecls(l []tree.Decl) string { return showEach(l, showDecl) }

// eachValue: calls f with all values in a tree, and with the tree.
func eachValue(v reflect.Value, f func(v reflect.Value, name string)) {
	switch v.Kind() {
	case reflect.Struct:
		for i := range v.NumField() {
			f(v.Field(i), v.Type().Field(i).Name)
			eachValue(v.Field(i), f)
		}
	case reflect.Slice:
		for i := range v.Len() {
			f(v.Index(i), "")
			eachValue(v.Index(i), f)
		}
	}
}
