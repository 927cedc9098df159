package markup

import (
	"slices"
	"strings"

	"tollgate/api"
)

const mostAttrs = 32 // of an element

// elements reads elements; it knows how many have begun.
type elements struct {
	reader
	count int
}

// tag is what stands between an element's < and its > or />.
type tag struct {
	name
	place api.Pos // of the <
	attrs []attr
	empty bool // whether it ends with />
}

// attr is an attribute as it is written.
type attr struct {
	name
	place api.Pos
	value string
}

// document reads a text.
func (r *elements) document() api.Node {
	if !r.take(`<?xml version="1.0"?>`) {
		r.take(`<?xml version="1.0" encoding="UTF-8"?>`)
	}
	r.between()
	if r.sees("<!") || r.sees("<?") {
		leave(r.here(), api.ErrTag)
	}
	node := r.element(atFirst(), 0)
	r.between()
	if !r.over() {
		leave(r.here(), api.ErrTag)
	}
	return node
}

// between reads blanks and comments.
func (r *elements) between() {
	r.blanks()
	for r.take("<!--") {
		r.comment()
		r.blanks()
	}
}

// element reads an element that stands in so many others.
func (r *elements) element(around spaces, deep int) api.Node {
	r.count++
	t := r.tag()
	within := around.with(t.attrs)
	node := within.resolve(t)
	if !t.empty {
		r.inside(&node, within, deep)
		r.end(t.name)
	}
	return node
}

// tag reads the begin of an element.
func (r *elements) tag() tag {
	t := tag{place: r.here()}
	r.need("<")
	t.name = r.name()
	for r.another() {
		t.attrs = append(t.attrs, r.attr(t.attrs))
	}
	t.empty = r.take("/")
	r.need(">")
	return t
}

// another says whether an attribute comes next, and goes to it.
func (r *elements) another() bool {
	apart := r.blanks()
	if r.sees("/") || r.sees(">") {
		return false
	}
	if !apart {
		r.wrong()
	}
	return true
}

// attr reads an attribute, behind those that stand ahead of it.
func (r *elements) attr(ahead []attr) attr {
	place := r.here()
	if r.named() && len(ahead) == mostAttrs {
		leave(place, api.ErrFull)
	}
	n := r.name()
	if slices.ContainsFunc(ahead, func(a attr) bool { return a.name == n }) {
		leave(place, api.ErrTwice)
	}
	r.blanks()
	r.need("=")
	r.blanks()
	return attr{n, place, r.value()}
}

// value reads an attribute's value, with its quotes.
func (r *elements) value() string {
	quote := `"`
	if r.sees(`'`) {
		quote = `'`
	}
	r.need(quote)
	var b strings.Builder
	for !r.take(quote) {
		switch {
		case r.sees("&"):
			b.WriteString(r.reference())
		case r.sees("<"):
			r.wrong()
		case r.blank():
			b.WriteByte(' ')
		default:
			b.WriteString(r.char())
		}
	}
	return b.String()
}

// inside reads what is in an element, up to its end's name.
func (r *elements) inside(node *api.Node, within spaces, deep int) {
	var text strings.Builder
	for !r.take("</") {
		switch {
		case r.take("<!--"):
			r.comment()
		case r.take("<![CDATA["):
			text.WriteString(r.cdata())
		case r.sees("<!"), r.sees("<?"), r.sees("]]>"):
			leave(r.here(), api.ErrTag)
		case r.sees("<"):
			r.room(deep + 1)
			node.Kids = append(node.Kids, r.element(within, deep+1))
		case r.sees("&"):
			text.WriteString(r.reference())
		default:
			text.WriteString(r.char())
		}
	}
	node.Text = text.String()
}

// room is asked for ahead of an element that would stand in so many others.
func (r *elements) room(deep int) {
	if deep == api.MaxNest {
		leave(r.here(), api.ErrDeep)
	}
	if r.count == api.MaxNodes {
		leave(r.here(), api.ErrFull)
	}
}

// end reads an element's end, behind its </.
func (r *elements) end(n name) {
	place := r.here()
	if r.name() != n {
		leave(place, api.ErrTag)
	}
	r.blanks()
	r.need(">")
}
