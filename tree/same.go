package tree

// SameType: the same but for At?
func SameType(a, b Type) bool {
	var h holder
	return h.types(&a, &b, 1) && h.finish()
}

// SamePat: the same but for At?
func SamePat(a, b Pat) bool {
	var h holder
	return h.pats(&a, &b, 1) && h.finish()
}

// SameExpr: the same but for At?
func SameExpr(a, b Expr) bool {
	var h holder
	return h.exprs(&a, &b, 1) && h.finish()
}

// SameDecls: the same but for At?
func SameDecls(a, b []Decl) bool {
	var h holder
	return sameList(a, b, 1, h.decls) && h.finish()
}

// holder: holds trees against each other, down to a level. What lies deeper is put off, since a tree may be too deep for the stack.
type holder struct {
	later []func() bool
}

// putOff: for the time being it is taken for the same.
func (h *holder) putOff(same func() bool) bool {
	h.later = append(h.later, same)
	return true
}

// finish: is all that was put off the same?
func (h *holder) finish() bool {
	for len(h.later) > 0 {
		last := len(h.later) - 1
		same := h.later[last]
		h.later = h.later[:last]
		if !same() {
			return false
		}
	}
	return true
}

// sameList: are two lists as long as each other, and each two the same? A list of nothing is no list.
func sameList[T any](a, b []T, level int, same func(a, b *T, level int) bool) bool {
	if len(a) != len(b) {
		return false
	}
	for i := range a {
		if !same(&a[i], &b[i], level) {
			return false
		}
	}
	return true
}

func (h *holder) types(a, b *Type, level int) bool {
	if level > deepest {
		return h.putOff(func() bool { return h.types(a, b, 1) })
	}
	return a.Kind == b.Kind && a.Name == b.Name &&
		sameList(a.Args, b.Args, level+1, h.types)
}

func (h *holder) pats(a, b *Pat, level int) bool {
	if level > deepest {
		return h.putOff(func() bool { return h.pats(a, b, 1) })
	}
	return a.Kind == b.Kind && a.Name == b.Name && a.N == b.N &&
		sameList(a.Args, b.Args, level+1, h.pats)
}

func (h *holder) exprs(a, b *Expr, level int) bool {
	if level > deepest {
		return h.putOff(func() bool { return h.exprs(a, b, 1) })
	}
	return a.Kind == b.Kind && a.Name == b.Name && a.N == b.N &&
		sameList(a.Args, b.Args, level+1, h.exprs) &&
		sameList(a.Pats, b.Pats, level+1, h.pats) &&
		sameList(a.Alts, b.Alts, level+1, h.alts) &&
		sameList(a.Decls, b.Decls, level+1, h.decls)
}

func (h *holder) alts(a, b *Alt, level int) bool {
	return h.pats(&a.Pat, &b.Pat, level) && h.exprs(&a.Body, &b.Body, level)
}

func (h *holder) decls(a, b *Decl, level int) bool {
	return a.Kind == b.Kind && a.Name == b.Name &&
		sameList(a.Vars, b.Vars, level, sameText) &&
		sameList(a.Cons, b.Cons, level, h.cons) &&
		h.types(&a.Type, &b.Type, level) &&
		sameList(a.Pats, b.Pats, level, h.pats) &&
		h.exprs(&a.Body, &b.Body, level)
}

func (h *holder) cons(a, b *Cons, level int) bool {
	return a.Name == b.Name && sameList(a.Args, b.Args, level, h.types)
}

func sameText(a, b *string, _ int) bool { return *a == *b }
