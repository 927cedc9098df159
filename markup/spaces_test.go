package markup_test

import (
	"strings"
	"testing"

	"tollgate/api"
)

// in is an attribute in a namespace.
func in(space, local, value string) api.Attr {
	return api.Attr{Space: space, Local: local, Value: value}
}

// P8.1: namespaces of elements and of attributes.
func TestSpaces(t *testing.T) {
	reads(t, `<a xmlns="u" b="1"><b/><c xmlns=""><d xmlns="v"/><e/></c></a>`, api.Node{
		Space: "u", Local: "a", Pos: at(1), Attrs: []api.Attr{{Local: "b", Value: "1"}}, Kids: []api.Node{
			{Space: "u", Local: "b", Pos: at(20)},
			{Local: "c", Pos: at(24), Kids: []api.Node{{Space: "v", Local: "d", Pos: at(36)}, {Local: "e", Pos: at(50)}}},
		},
	})
	reads(t, `<p:a xmlns:p="u"><p:b xmlns:p="v" p:x=""/><p:c p:x=""/></p:a>`, api.Node{
		Space: "u", Local: "a", Pos: at(1), Kids: []api.Node{
			{Space: "v", Local: "b", Pos: at(18), Attrs: []api.Attr{{Space: "v", Local: "x"}}},
			{Space: "u", Local: "c", Pos: at(43), Attrs: []api.Attr{{Space: "u", Local: "x"}}},
		},
	})
	reads(t, `<a p:x="1" x="2" xmlns:p="u" xmlns:q="v" q:x="3" xml:x="4"/>`, api.Node{
		Local: "a", Pos: at(1), Attrs: []api.Attr{in("u", "x", "1"), in("", "x", "2"), in("v", "x", "3"), in(xmlSpace, "x", "4")},
	})
	reads(t, `<xml:a><b xml:c=""/></xml:a>`, api.Node{
		Space: xmlSpace, Local: "a", Pos: at(1), Kids: []api.Node{{Local: "b", Pos: at(8), Attrs: []api.Attr{{Space: xmlSpace, Local: "c"}}}},
	})
	reads(t, `<a xmlns="u" xmlns:p="u" x="1" p:x="2"/>`, api.Node{
		Space: "u", Local: "a", Pos: at(1), Attrs: []api.Attr{in("", "x", "1"), in("u", "x", "2")},
	})
	reads(t, `<xmlns p:xmlns="1" xmlns:p="&#32;&amp;	"/>`, api.Node{Local: "xmlns", Pos: at(1), Attrs: []api.Attr{in(" & ", "xmlns", "1")}})
	reads(t, `<a xmlns="`+xmlSpace+`" xmlns:p="`+xmlSpace+`" p:x=""/>`, api.Node{Space: xmlSpace, Local: "a", Pos: at(1), Attrs: []api.Attr{in(xmlSpace, "x", "")}})
	reads(t, `<a xmlns="u" xmlns:a="v"><a:a xmlns:a="w"/><a:b/></a>`, api.Node{
		Space: "u", Local: "a", Pos: at(1), Kids: []api.Node{{Space: "w", Local: "a", Pos: at(26)}, {Space: "v", Local: "b", Pos: at(44)}},
	})
}

// P8.1: prefixes that stand for nothing, and attributes of namespaces that may not be, in the order in which they are told.
func TestSpacesRefused(t *testing.T) {
	for s, col := range map[string]int{
		`<p:a/>`: 1, `<p:a></p:a>`: 1, `<p:a>`: 1, `<a p:b=""/>`: 4, `<a b="" p:c="" q:d="">`: 9, `<xmlns:a/>`: 1, `<a><xmlns:b/></a>`: 4, `<P:a xmlns:p="u"/>`: 1,
		`<a xmlns:p=""/>`: 4, `<a xmlns:p="u"><b xmlns:p=""/></a>`: 19, `<a xmlns:xml="` + xmlSpace + `"/>`: 4, `<a xmlns:xml="u"/>`: 4, `<a xmlns:xmlns="u"/>`: 4, `<a xmlns:xmlns="http://www.w3.org/2000/xmlns/"/>`: 4,
		`<p:a q:b="" xmlns:xml="u"/>`: 13, `<p:a q:b="" xmlns:q=""/>`: 13, `<p:a xmlns:q="" xmlns:xml="u"/>`: 6, `<p:a xmlns:xmlns="u" xmlns:q=""/>`: 6, `<p:a q:b=""/>`: 1, `<p:a b="1" xmlns:q="u"/>`: 1,
		`<a><b xmlns:p="u"/><p:c/></a>`: 20, `<a><b xmlns:p="u"></b><c p:d=""/></a>`: 26, `<a><b xmlns:p="u"><p:c/></b><p:c/></a>`: 29,
		`<a p:b="" q:c="1" xmlns:q="u"/>`: 4, `<a q:b="" x:c="" xmlns:q="u"/>`: 11,
	} {
		refuses(t, s, at(col), api.ErrSpace)
	}
	for s, col := range map[string]int{
		`<a xmlns:p="u" xmlns:q="u" p:x="" q:x=""/>`: 35, `<a xmlns:p="u" xmlns:q="u" p:x="" x="" q:x="" r:y=""/>`: 40, `<a xmlns:p="u" xmlns:q="u" p:x="" q:x=""></a>`: 35,
		`<a xmlns:p="` + xmlSpace + `" p:x="" xml:x=""/>`: 58, `<a xmlns:p="u" xmlns:q="u" q:a="" q:x="" q:y="" p:x="" p:a=""/>`: 49,
	} {
		refuses(t, s, at(col), api.ErrTwice)
	}
	// Of attributes the first one that is refused is told, whether by its prefix or as a second one.
	refuses(t, `<a xmlns:p="u" xmlns:q="u" p:x="" r:x="" q:x=""/>`, at(35), api.ErrSpace)
	refuses(t, `<a xmlns:p="u" xmlns:q="u" p:x="" q:x="" r:x=""/>`, at(35), api.ErrTwice)
	// All of that is told where the tag ends, so that what can't go on ahead of its end is told instead.
	refuses(t, `<p:a`, at(5), api.ErrOpen)
	refuses(t, `<p:a/`, at(6), api.ErrOpen)
	refuses(t, `<p:a/a>`, at(6), api.ErrTag)
	refuses(t, `<p:a b="`, at(9), api.ErrOpen)
	refuses(t, `<p:a b="" b=""/>`, at(11), api.ErrTwice)
	refuses(t, `<p:a b="&"/>`, at(9), api.ErrEntity)
	refuses(t, `<a xmlns:p=""<`, at(14), api.ErrTag)
	refuses(t, `<p:a></b`, at(1), api.ErrSpace)
	refuses(t, `<a xmlns:p="" xmlns:p="u"/>`, at(15), api.ErrTwice)
	refuses(t, `<a xmlns="" xmlns="">`, at(13), api.ErrTwice)
}

// P8.1: an attribute's name stands but once, told also where the text ends behind it.
func TestTwice(t *testing.T) {
	for _, behind := range []string{"", "=", "=''/>", " ", "/>", "\x00", "&", "<", ":"} {
		want, col := api.ErrTwice, 9
		if behind == ":" {
			want, col = api.ErrOpen, 11
		}
		refuses(t, "<a b='' b"+behind, at(col), want)
	}
	refuses(t, "<a p:b='' p:b", at(11), api.ErrTwice)
	refuses(t, "<a b='' c='' d='' c", at(19), api.ErrTwice)
	refuses(t, "<a bc='' b", at(11), api.ErrOpen)
	refuses(t, "<a b='' bc", at(11), api.ErrOpen)
	refuses(t, "<a b='' B='' b", at(14), api.ErrTwice)
	refuses(t, "<a b='' p:b='' b:p='' p:p='' b:b='' p", at(38), api.ErrOpen)
	refuses(t, "<a b='' p:b='' b:p='' p:p='' b:b='' b", at(37), api.ErrTwice)
	refuses(t, "<a b='' p:b='' b:p='' p:p='' b:b='' p:p", at(37), api.ErrTwice)
}

// many are attributes, each behind a blank.
func many(n int) string {
	var b strings.Builder
	for i := range n {
		b.WriteString(" a" + strings.Repeat("b", i) + "=''")
	}
	return b.String()
}

// P8.1, the limits: bytes of a text; attributes of an element, those of namespaces among them.
func TestFull(t *testing.T) {
	whole := "<a>" + strings.Repeat("b", api.MaxXML-7) + "</a>"
	reads(t, whole, api.Node{Local: "a", Pos: at(1), Text: strings.Repeat("b", api.MaxXML-7)})
	refuses(t, whole+" ", api.Pos{}, api.ErrFull)
	refuses(t, "&"+whole, api.Pos{}, api.ErrFull)
	refuses(t, strings.Repeat("\x00", api.MaxXML+1), api.Pos{}, api.ErrFull)
	refuses(t, strings.Repeat("\x00", api.MaxXML), at(1), api.ErrTag)
	refuses(t, strings.Repeat("\n", api.MaxXML), api.Pos{Line: api.MaxXML + 1, Col: 1}, api.ErrOpen)
	attrs := many(32)
	if n := read(t, "<a"+attrs+"/>"); len(n.Attrs) != 32 {
		t.Errorf("%d attributes", len(n.Attrs))
	}
	read(t, "<a"+attrs+"><b"+attrs+"/></a>")
	if n := read(t, "<a xmlns='u' xmlns:p='v'"+many(30)+"/>"); len(n.Attrs) != 30 {
		t.Errorf("%d attributes", len(n.Attrs))
	}
	col := len(attrs) + 4
	for _, more := range []string{"z", "z=''/>", "z:", "z:1", "z:" + strings.Repeat("b", 33), "xmlns='u'", "xmlns:p=''", "a", "a=''", "_", "z\x00", strings.Repeat("z", 33)} {
		refuses(t, "<a"+attrs+" "+more, at(col), api.ErrFull)
	}
	for _, more := range []string{"1", "=", "&", "<", "\x00", ":z"} {
		refuses(t, "<a"+attrs+" "+more, at(col), api.ErrTag)
	}
	refuses(t, "<a"+attrs+"z", at(col-1), api.ErrTag)
	refuses(t, "<a"+attrs+" ", at(col), api.ErrOpen)
	refuses(t, "<a xmlns='u' xmlns:p='v'"+many(30)+" z", at(len("<a xmlns='u' xmlns:p='v'"+many(30))+2), api.ErrFull)
	refuses(t, "<a"+many(31)+" a", at(len(many(31))+4), api.ErrTwice)
}

// P8.1, the limits: elements in one another, elements in all.
func TestDeep(t *testing.T) {
	open, shut := strings.Repeat("<a>", 15), strings.Repeat("</a>", 15)
	n := read(t, open+"<b/><c></c>"+shut)
	for range 15 {
		n = n.Kids[0]
	}
	if n.Local != "b" {
		t.Errorf("%+v", n)
	}
	for _, more := range []string{"", "a", "a/>", ">", " ", "1", "<", "\x00", "&", strings.Repeat("a", 33)} {
		refuses(t, open+"<b><"+more, at(49), api.ErrDeep)
		refuses(t, open+"<b></b><b>t<"+more, at(57), api.ErrDeep)
	}
	refuses(t, open+"<b></", at(51), api.ErrOpen)
	refuses(t, open+"<b></b", at(52), api.ErrOpen)
	refuses(t, open+"<b><!", at(49), api.ErrTag)
	refuses(t, open+"<b><?", at(49), api.ErrTag)
	refuses(t, open+"<b><!--", at(53), api.ErrOpen)
	refuses(t, open+"<b><![CDATA[", at(58), api.ErrOpen)
	read(t, open+"<b><!-- <a> --><![CDATA[<a>]]></b>"+shut)

	kids := strings.Repeat("<b/>", api.MaxNodes-1)
	if n := read(t, "<a>"+kids+"</a>"); len(n.Kids) != api.MaxNodes-1 {
		t.Errorf("%d elements", len(n.Kids))
	}
	for _, more := range []string{"", "a", "a/>", ">", "1", "<", strings.Repeat("a", 33)} {
		refuses(t, "<a>"+kids+"<"+more, at(len(kids)+4), api.ErrFull)
	}
	refuses(t, "<a>"+kids+"</", at(len(kids)+6), api.ErrOpen)
	refuses(t, "<a>"+kids+"<!", at(len(kids)+4), api.ErrTag)
	refuses(t, "<a>"+kids+"<?", at(len(kids)+4), api.ErrTag)
	refuses(t, "<a>"+kids+"<!--", at(len(kids)+8), api.ErrOpen)
	refuses(t, "<a>"+kids+"</a><b/>", at(len(kids)+8), api.ErrTag)
	// Told ahead of the other one.
	kids = strings.Repeat("<b/>", api.MaxNodes-17)
	read(t, "<a>"+kids+"<b/>"+strings.Repeat("<b>", 15)+strings.Repeat("</b>", 15)+"</a>")
	refuses(t, "<a>"+kids+"<b/>"+strings.Repeat("<b>", 15)+"<", at(len(kids)+53), api.ErrDeep)
	refuses(t, "<a>"+kids+"<b/>"+strings.Repeat("<b>", 15)+"</b><", at(len(kids)+57), api.ErrFull)
	refuses(t, "<a>"+kids+"<b/><b/><b/>"+strings.Repeat("<b>", 14), at(len(kids)+55), api.ErrFull)
}
