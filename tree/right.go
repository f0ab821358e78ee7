package tree

import (
	"slices"

	"hammock/api"
	"hammock/token"
)

// deepest: no tree that may be is deeper. Going no further also keeps a walk through any tree from using up the stack.
const deepest = 4 * api.MaxDeep

const (
	listCon = "[]"
	headCon = ":"
)

// RightType: may it be?
func RightType(t Type) bool { return rightType(&t, 1) }

// RightPat: may it be?
func RightPat(p Pat) bool { return rightPat(&p, 1) }

// RightExpr: may it be?
func RightExpr(e Expr) bool { return rightExpr(&e, 1) }

// RightDecls: may they be, at the top of a source or within an ELet?
func RightDecls(l []Decl, top bool) bool { return rightDecls(l, top, 1) }

// all: is each of them right?
func all[T any](l []T, right func(*T) bool) bool {
	for i := range l {
		if !right(&l[i]) {
			return false
		}
	}
	return true
}

// rightType: may a type be that stands on this level of a tree, the first being 1?
func rightType(t *Type, level int) bool {
	if level > deepest || !rightTypeHead(t) {
		return false
	}
	return all(t.Args, func(arg *Type) bool { return rightType(arg, level+1) })
}

// rightTypeHead: may it be, whatever its Args are?
func rightTypeHead(t *Type) bool {
	switch t.Kind {
	case TVar:
		return isName(t.Name) && len(t.Args) == 0
	case TCon:
		return t.Name == listCon && len(t.Args) == 1 || isCon(t.Name) && len(t.Args) <= api.MaxParts
	case TFun:
		return t.Name == "" && len(t.Args) == 2
	}
	return false
}

func rightPat(p *Pat, level int) bool {
	if level > deepest || !rightPatHead(p) {
		return false
	}
	return all(p.Args, func(arg *Pat) bool { return rightPat(arg, level+1) })
}

// rightPatHead: may it be, whatever its Args are?
func rightPatHead(p *Pat) bool {
	name, n, args := p.Name == "", p.N == 0, len(p.Args) == 0
	switch p.Kind {
	case PAny:
	case PBind:
		name = isName(p.Name)
	case PNum:
		n = p.N >= 0
	case PChr:
		n = isByte(p.N)
	case PStr:
		name = len(p.Name) <= api.MaxText
	case PMake:
		name, args = isAnyCon(p.Name), rightParts(p.Name, len(p.Args))
	default:
		return false
	}
	return name && n && args
}

// rightParts: may the pattern of a con have so many Args?
func rightParts(con string, n int) bool {
	switch con {
	case listCon:
		return n == 0
	case headCon:
		return n == 2
	}
	return n <= api.MaxParts
}

func rightExpr(e *Expr, level int) bool {
	if level > deepest || !rightExprHead(e) {
		return false
	}
	return all(e.Args, func(arg *Expr) bool { return rightExpr(arg, level+1) }) &&
		rightPats(e.Pats) &&
		all(e.Alts, func(a *Alt) bool { return rightPat(&a.Pat, 1) && rightExpr(&a.Body, level+1) }) &&
		rightDecls(e.Decls, false, level+1)
}

// rightPats: each pattern is a tree by itself.
func rightPats(l []Pat) bool {
	return all(l, func(p *Pat) bool { return rightPat(p, 1) })
}

// rightExprHead: may it be, whatever stands in its lists?
func rightExprHead(e *Expr) bool {
	name, n, args := e.Name == "", e.N == 0, 0
	pats, alts, decls := len(e.Pats) == 0, len(e.Alts) == 0, len(e.Decls) == 0
	switch e.Kind {
	case EName:
		name = isName(e.Name) || isOp(e.Name)
	case ECon:
		name = isAnyCon(e.Name)
	case EInt:
		n = e.N >= 0
	case EChar:
		n = isByte(e.N)
	case EText:
		name = len(e.Name) <= api.MaxText
	case ECall:
		args = 2
	case ELam:
		args, pats = 1, someOf(len(e.Pats), api.MaxParts)
	case ELet:
		args, decls = 1, true
	case EIf:
		args = 3
	case ECase:
		args, alts = 1, someOf(len(e.Alts), api.MaxDecls)
	default:
		return false
	}
	return name && n && len(e.Args) == args && pats && alts && decls
}

func someOf(n, most int) bool { return 1 <= n && n <= most }

// rightDecls: may they be, whose Bodies stand on this level of a tree?
func rightDecls(l []Decl, top bool, level int) bool {
	if len(l) > api.MaxDecls {
		return false
	}
	return all(l, func(d *Decl) bool {
		switch d.Kind {
		case DData:
			return top && rightData(d)
		case DSig:
			return rightSig(d)
		case DDef:
			return rightDef(d, level)
		}
		return false
	})
}

func rightData(d *Decl) bool {
	return isCon(d.Name) && rightVars(d.Vars) && rightCons(d.Cons) &&
		isNoType(d.Type) && len(d.Pats) == 0 && isNoExpr(d.Body)
}

func rightVars(l []string) bool {
	if len(l) > api.MaxParts {
		return false
	}
	for i, name := range l {
		if !isName(name) || slices.Contains(l[:i], name) {
			return false
		}
	}
	return true
}

func rightCons(l []Cons) bool {
	return someOf(len(l), api.MaxCons) && all(l, func(c *Cons) bool {
		return isCon(c.Name) && len(c.Args) <= api.MaxParts &&
			all(c.Args, func(t *Type) bool { return rightType(t, 1) })
	})
}

func rightSig(d *Decl) bool {
	return isName(d.Name) && rightType(&d.Type, 1) &&
		len(d.Vars) == 0 && len(d.Cons) == 0 && len(d.Pats) == 0 && isNoExpr(d.Body)
}

func rightDef(d *Decl, level int) bool {
	return isName(d.Name) && len(d.Pats) <= api.MaxParts && rightPats(d.Pats) && rightExpr(&d.Body, level) &&
		len(d.Vars) == 0 && len(d.Cons) == 0 && isNoType(d.Type)
}

// isNoType: a place alone makes no type, since the same declaration at another place may be, too.
func isNoType(t Type) bool { return SameType(t, Type{}) }

func isNoExpr(e Expr) bool { return SameExpr(e, Expr{}) }

// isName: a name, but _.
func isName(s string) bool { return s != "_" && token.Word(s) }

// isOp: an op that stands as a name.
func isOp(s string) bool {
	switch s {
	case "=", "|", "->", "\\", "::", ":", ".":
		return false
	}
	return token.Sign(s)
}

// isCon: a Con's text.
func isCon(s string) bool {
	if len(s) > api.MaxName {
		return false
	}
	l, _ := token.Scan(s)
	return len(l) > 0 && l[0].Kind == token.Con && l[0].Text == s
}

// isAnyCon: a Con's text, or : or [].
func isAnyCon(s string) bool { return s == headCon || s == listCon || isCon(s) }

func isByte(n int) bool { return 0 <= n && n <= 255 }
