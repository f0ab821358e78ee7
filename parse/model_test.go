package parse

import (
	"strings"

	"hammock/token"
)

// grammar: chapter 4's, told in another way: what stands beside the grammar (operators, which of them may stand beside each other, that a form reaches as far as it can, names that stand once) is laid into rules, for sources of which all names are a, b and _. No rule leads back to itself without a token, and none is in vain.
const grammar = `
program  =
program  = "data" CON vars "=" cons conses ";" program
program  = decl ";" program
vars     =
vars     = "a"
vars     = "b"
vars     = "a" "b"
vars     = "b" "a"
cons     = CON atypes
conses   =
conses   = "|" cons conses
decl     = NAME "::" type
decl     = NAME apats "=" expr
decls    =
decls    = decl ";" decls
type     = btype
type     = btype "->" type
btype    = CON atypes
btype    = NAME
btype    = wrapped
atypes   =
atypes   = atype atypes
atype    = NAME
atype    = CON
atype    = wrapped
wrapped  = "[" type "]"
wrapped  = "(" type ")"

expr     = run
expr     = open
expr     = closed
rest     = run
rest     = open
open     = "\" apat apats "->" rest
open     = "let" "{" decls "}" "in" rest
open     = "if" expr "then" expr "else" rest
closed   = "\" apat apats "->" closed
closed   = "let" "{" decls "}" "in" closed
closed   = "if" expr "then" expr "else" closed
closed   = "case" expr "of" "{" alt alts "}"
alt      = pat "->" expr ";"
alts     =
alts     = alt alts
run      = atom atoms any
any      =
any      = LOGIC operand any
any      = OTHER operand any
any      = COMPARE operand few
any      = OP open
few      =
few      = LOGIC operand any
few      = OTHER operand few
few      = LOGIC open
few      = OTHER open
operand  = atom atoms
operand  = closed
atoms    =
atoms    = atom atoms
atom     = NAME
atom     = CON
atom     = VALUE
atom     = "(" expr ")"
atom     = "(" OP ")"
atom     = "[" "]"
atom     = "[" expr exprs "]"
exprs    =
exprs    = "," expr exprs

pat      = cpat
pat      = cpat ":" pat
cpat     = CON apats
cpat     = NAME
cpat     = "_"
cpat     = VALUE
cpat     = bounded
apats    =
apats    = apat apats
apat     = NAME
apat     = "_"
apat     = VALUE
apat     = CON
apat     = bounded
bounded  = "(" pat ")"
bounded  = "[" "]"
bounded  = "[" pat pats "]"
pats     =
pats     = "," pat pats
`

// model: the rules of the grammar: what each word may stand for.
type model map[string][]string

func newModel() model {
	m := model{}
	for line := range strings.Lines(grammar) {
		if left, right, ok := strings.Cut(line, "="); ok {
			left = strings.TrimSpace(left)
			m[left] = append(m[left], strings.Join(strings.Fields(right), " "))
		}
	}
	return m
}

// ahead: what may be ahead of a reader: each is words of the grammar, of which the first one must come next.
type ahead map[string]bool

// begin: ahead of all.
func (m model) begin(start string) ahead { return ahead{start + " END": true} }

// step: what may be ahead behind a token; nothing, if it may not come next.
func (m model) step(a ahead, x token.Token) ahead {
	next := ahead{}
	for words := range a {
		m.stepInto(next, words, x)
	}
	return next
}

func (m model) stepInto(next ahead, words string, x token.Token) {
	first, rest, _ := strings.Cut(words, " ")
	rules, known := m[first]
	if !known {
		if fits(first, x) {
			next[rest] = true
		}
		return
	}
	for _, rule := range rules {
		m.stepInto(next, strings.TrimSpace(rule+" "+rest), x)
	}
}

// fits: is a token what a word of the grammar in capitals, or in quotes, asks for?
func fits(word string, x token.Token) bool {
	compare, logic := strings.Contains(" == /= < <= > >= ", " "+x.Text+" "), x.Text == "&&" || x.Text == "||"
	other := strings.Contains(" : ++ + - * / % ", " "+x.Text+" ")
	switch word {
	case "END":
		return x.Kind == token.End
	case "NAME":
		return x.Kind == token.Name && x.Text != "_"
	case "CON":
		return x.Kind == token.Con
	case "VALUE":
		return x.Kind == token.Number || x.Kind == token.Letter || x.Kind == token.Text
	case "COMPARE":
		return x.Kind == token.Op && compare
	case "LOGIC":
		return x.Kind == token.Op && logic
	case "OTHER":
		return x.Kind == token.Op && other
	case "OP":
		return x.Kind == token.Op && (compare || logic || other)
	}
	return x.Kind != token.Letter && x.Kind != token.Text && word == `"`+x.Text+`"`
}

// wrong: the number of the first token with which no longer any source begins; how many there are, if the source is one.
func (m model) wrong(start string, l []token.Token) int {
	a := m.begin(start)
	for i, x := range l {
		if a = m.step(a, x); len(a) == 0 {
			return i
		}
	}
	return len(l)
}
