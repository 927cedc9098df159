package markup

import (
	"slices"

	"tollgate/api"
)

const (
	xmlPrefix   = "xml"
	xmlSpace    = "http://www.w3.org/XML/1998/namespace"
	spacePrefix = "xmlns" // of what says for which namespace a prefix stands
)

// space is a namespace.
type space struct{ name string }

// spaces are those for which prefixes stand; under "" the one for which no prefix stands.
type spaces map[string]space

// atFirst are the spaces around all elements.
func atFirst() spaces {
	return spaces{"": {""}, xmlPrefix: {xmlSpace}}
}

// with are the spaces as attributes say otherwise; the same ones, if none does.
func (s spaces) with(attrs []attr) spaces {
	if !slices.ContainsFunc(attrs, attr.ofSpaces) {
		return s
	}
	more := spaces{}
	for prefix, known := range s {
		more[prefix] = known
	}
	for _, a := range attrs {
		switch {
		case !a.ofSpaces():
		case a.prefix == "":
			more[""] = space{a.value}
		case a.value == "", a.local == xmlPrefix, a.local == spacePrefix:
			leave(a.place, api.ErrSpace)
		default:
			more[a.local] = space{a.value}
		}
	}
	return more
}

// ofSpaces says whether an attribute is one of namespaces.
func (a attr) ofSpaces() bool {
	return a.prefix == spacePrefix || a.name == name{local: spacePrefix}
}

// resolve is the node of a tag, with nothing in it yet.
func (s spaces) resolve(t tag) api.Node {
	node := api.Node{Space: s.of(t.prefix, t.place), Local: t.local, Pos: t.place}
	for _, a := range t.attrs {
		if a.ofSpaces() {
			continue
		}
		in := ""
		if a.prefix != "" {
			in = s.of(a.prefix, a.place)
		}
		if slices.ContainsFunc(node.Attrs, func(b api.Attr) bool { return b.Space == in && b.Local == a.local }) {
			leave(a.place, api.ErrTwice)
		}
		node.Attrs = append(node.Attrs, api.Attr{Space: in, Local: a.local, Value: a.value})
	}
	return node
}

// of is the namespace for which a prefix stands.
func (s spaces) of(prefix string, place api.Pos) string {
	known, ok := s[prefix]
	if !ok {
		leave(place, api.ErrSpace)
	}
	return known.name
}
