package parse

import (
	"hammock/api"
	"hammock/token"
	"hammock/tree"
)

// Levels of operators, from the loosest to the tightest.
const (
	noLevel = iota
	orLevel
	andLevel
	compareLevel
	joinLevel
	sumLevel
	productLevel
)

// level: how tight an operator is; noLevel of a token that is none.
func level(x token.Token) int {
	if x.Kind != token.Op {
		return noLevel
	}
	switch x.Text {
	case "||":
		return orLevel
	case "&&":
		return andLevel
	case "==", "/=", "<", "<=", ">", ">=":
		return compareLevel
	case headCon, "++":
		return joinLevel
	case "+", "-":
		return sumLevel
	case "*", "/", "%":
		return productLevel
	}
	return noLevel
}

func isOperator(x token.Token) bool { return level(x) != noLevel }

// operatorName: an operator as a name, or as a con.
func operatorName(x token.Token) tree.Expr {
	kind := tree.EName
	if x.Text == headCon {
		kind = tree.ECon
	}
	return tree.Expr{Kind: kind, At: x.At, Name: x.Text}
}

func (p *parser) run() tree.Expr {
	s := stack{operands: []tree.Expr{p.call()}}
	for count := 1; isOperator(p.here()); count++ {
		if !s.push(p.here()) {
			p.fail(api.ErrWord)
			break
		}
		if count == api.MaxDeep {
			p.fail(api.ErrSize)
			break
		}
		p.take()
		s.operands = append(s.operands, p.operand())
	}
	if p.fault.E != api.OK {
		return tree.Expr{}
	}
	return s.finish()
}

// operand: of a run, but the first one, that is never a form.
func (p *parser) operand() tree.Expr {
	if read := p.formReader(); read != nil {
		return within(p, read)
	}
	return p.call()
}

// stack: what of a run is not yet put together: operands, and between two of them an operator, that waits since the one ahead of it is looser, or as loose and goes to the right.
type stack struct {
	operands  []tree.Expr
	operators []token.Token
}

// push: an operator behind the operands; false of a comparison that stands beside another one.
func (s *stack) push(x token.Token) bool {
	for len(s.operators) > 0 && goesFirst(s.top(), x) {
		s.fold()
	}
	// An && or || between them would have folded the other one.
	if len(s.operators) > 0 && level(x) == compareLevel && level(s.top()) == compareLevel {
		return false
	}
	s.operators = append(s.operators, x)
	return true
}

func (s *stack) top() token.Token { return s.operators[len(s.operators)-1] }

// goesFirst: is the operand between two operators the first one's?
func goesFirst(a, b token.Token) bool {
	if level(a) != level(b) {
		return level(a) > level(b)
	}
	return goesLeft(level(a))
}

func goesLeft(level int) bool { return level == sumLevel || level == productLevel }

// fold: puts the last operator and the operands around it together.
func (s *stack) fold() {
	operator, last := s.top(), len(s.operands)-1
	s.operators = s.operators[:len(s.operators)-1]
	s.operands[last-1] = between(operatorName(operator), s.operands[last-1], s.operands[last])
	s.operands = s.operands[:last]
}

// finish: the run, with nothing more behind it.
func (s *stack) finish() tree.Expr {
	for len(s.operators) > 0 {
		s.fold()
	}
	return s.operands[0]
}
