package names

import (
	"slices"
	"strings"

	"hammock/tree"
)

// Free: the names that an expression uses and does not bind, by rising texts, each once.
func Free(e tree.Expr) []string {
	var names []string
	for name := range uses(&e, func(*tree.Expr) {}) {
		names = append(names, strings.Clone(name))
	}
	slices.Sort(names)
	return names
}

// uses: the names that an expression uses and does not bind, each with its least place. Each expression in it is handed to a function.
func uses(e *tree.Expr, visit func(*tree.Expr)) map[string]int {
	w := walker{scope: &scope{}, visit: visit}
	w.part(e)
	for len(w.ahead) > 0 {
		last := len(w.ahead) - 1
		step := w.ahead[last]
		w.ahead = w.ahead[:last]
		step()
	}
	return w.scope.uses
}

// walker: goes through an expression, whether it may be or not. Its steps stand in a list, the next one last, and are no calls within each other, since an expression may be too deep for the stack.
type walker struct {
	scope *scope
	visit func(*tree.Expr)
	ahead []func()
}

func (w *walker) put(step func()) { w.ahead = append(w.ahead, step) }

func (w *walker) part(e *tree.Expr) {
	w.put(func() { w.expr(e) })
}

func (w *walker) expr(e *tree.Expr) {
	w.visit(e)
	for i := range e.Alts {
		w.body(&e.Alts[i].Body, e.Alts[i].Pat)
	}
	// Most expressions bind nothing: a scope for each would take far more memory.
	if len(e.Pats) == 0 && len(e.Decls) == 0 {
		w.inner(e)
		return
	}
	binds := func() []string { return append(bound(e.Pats), Names(e.Decls)...) }
	w.within(binds, func() { w.inner(e) })
}

// inner: what stands where an expression's own names are known.
func (w *walker) inner(e *tree.Expr) {
	if e.Kind == tree.EName {
		w.put(func() { w.scope.use(e.Name, e.At) })
	}
	for i := range e.Args {
		w.part(&e.Args[i])
	}
	for i := range e.Decls {
		if d := &e.Decls[i]; d.Kind == tree.DDef {
			w.body(&d.Body, d.Pats...)
		}
	}
}

func (w *walker) body(e *tree.Expr, pats ...tree.Pat) {
	w.within(func() []string { return bound(pats) }, func() { w.part(e) })
}

// within: parts that have a scope of their own. It is left behind them and entered ahead of them, but what is put last is the first step.
func (w *walker) within(binds func() []string, parts func()) {
	w.put(func() { w.scope = w.scope.leave(binds()) })
	parts()
	w.put(func() { w.scope = &scope{around: w.scope} })
}

// bound: the names that patterns bind.
func bound(l []tree.Pat) []string {
	var names []string
	for i := range l {
		names = append(names, tree.Binds(l[i])...)
	}
	return names
}
