package tree

import "strings"

// Size: how many expressions there are in it.
func Size(e Expr) int { return count(e).size }

// Deep: one and the greatest Deep of its parts.
func Deep(e Expr) int { return count(e).deep }

// counter: counts expressions, and their levels. What lies deep is put off, since a tree may be too deep for the stack.
type counter struct {
	size, deep int
	later      []levelled
}

// levelled: an expression, and the level of the whole tree on which it stands.
type levelled struct {
	expr  *Expr
	level int
}

func count(e Expr) counter {
	var c counter
	c.later = []levelled{{&e, 1}}
	for len(c.later) > 0 {
		last := len(c.later) - 1
		next := c.later[last]
		c.later = c.later[:last]
		c.add(next.expr, next.level)
	}
	return c
}

func (c *counter) add(e *Expr, level int) {
	c.size++
	c.deep = max(c.deep, level)
	for i := range e.Args {
		c.part(&e.Args[i], level+1)
	}
	for i := range e.Alts {
		c.part(&e.Alts[i].Body, level+1)
	}
	for i := range e.Decls {
		if d := &e.Decls[i]; d.Kind == DDef {
			c.part(&d.Body, level+1)
		}
	}
}

func (c *counter) part(e *Expr, level int) {
	if level%deepest == 0 {
		c.later = append(c.later, levelled{e, level})
		return
	}
	c.add(e, level)
}

// Binds: the names that a pattern binds, from left to right.
func Binds(p Pat) []string {
	var names []string
	// A list, and no recursive function: a pattern may be too deep for the stack, and nothing of it can be put off, since the names are told in order.
	ahead := []*Pat{&p}
	for len(ahead) > 0 {
		last := len(ahead) - 1
		next := ahead[last]
		ahead = ahead[:last]
		switch next.Kind {
		case PBind:
			names = append(names, strings.Clone(next.Name))
		case PMake:
			for i := len(next.Args) - 1; i >= 0; i-- {
				ahead = append(ahead, &next.Args[i])
			}
		}
	}
	return names
}
