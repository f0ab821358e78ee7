package print

import (
	"strconv"
	"strings"

	"hammock/api"
	"hammock/glyph"
)

// printer: writes trees that may be into one builder.
type printer struct{ b strings.Builder }

// full: is there more already than a source may have?
func (p *printer) full() bool { return p.b.Len() > api.MaxSource }

// put: nothing more behind what is too long: lists that trees share may make a text far longer than they are.
func (p *printer) put(s string) {
	if !p.full() {
		p.b.WriteString(s)
	}
}

func (p *printer) number(n int) { p.put(strconv.Itoa(n)) }

func (p *printer) letter(n int) {
	p.put("'")
	p.put(glyph.Escape(byte(n), '\''))
	p.put("'")
}

func (p *printer) quoted(s string) { p.put(glyph.Quote(s)) }

// part: what writes something that stands within something else: in parentheses, where needs tells so, or else bare.
func part[T any](p *printer, needs func(*T) bool, bare func(*T)) func(*T) {
	return func(x *T) {
		if !needs(x) {
			bare(x)
			return
		}
		p.put("(")
		bare(x)
		p.put(")")
	}
}

// row: each with a blank ahead of it.
func row[T any](p *printer, l []T, write func(*T)) {
	for i := range l {
		p.put(" ")
		write(&l[i])
	}
}

// parted: each, with something between two.
func parted[T any](p *printer, l []T, between string, write func(*T)) {
	for i := range l {
		if i > 0 {
			p.put(between)
		}
		write(&l[i])
	}
}
