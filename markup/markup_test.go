package markup_test

import (
	"reflect"
	"strconv"
	"strings"
	"testing"

	"tollgate/api"
	"tollgate/markup"
)

const xmlSpace = "http://www.w3.org/XML/1998/namespace"

// at is a place in a text's first line.
func at(col int) api.Pos { return api.Pos{Line: 1, Col: col} }

// plain is a node with nil in the place of empty lists, so that nodes can be held against each other.
func plain(n api.Node) api.Node {
	if len(n.Attrs) == 0 {
		n.Attrs = nil
	}
	var kids []api.Node
	for _, k := range n.Kids {
		kids = append(kids, plain(k))
	}
	n.Kids = kids
	return n
}

// read is the node of a text that must be read.
func read(t *testing.T, s string) api.Node {
	t.Helper()
	n, p, e := markup.Parse(s)
	if e != api.OK || p != (api.Pos{}) {
		t.Fatalf("Parse(%.300q): %v at %v", s, e, p)
	}
	return plain(n)
}

// reads asks for a text's node.
func reads(t *testing.T, s string, want api.Node) {
	t.Helper()
	if n := read(t, s); !reflect.DeepEqual(n, want) {
		t.Errorf("Parse(%.300q): %+v, not %+v", s, n, want)
	}
}

// refuses asks for an error and its place, with a zero node.
func refuses(t *testing.T, s string, place api.Pos, want api.Errno) {
	t.Helper()
	n, p, e := markup.Parse(s)
	if e != want || p != place {
		t.Errorf("Parse(%.300q): %v at %v, not %v at %v", s, e, p, want, place)
	}
	if !reflect.DeepEqual(n, api.Node{}) {
		t.Errorf("Parse(%.300q): %+v, beside an error", s, n)
	}
}

// P8.1, examples 1 and 2.
func TestParseExamples(t *testing.T) {
	reads(t, `<a/>`, api.Node{Local: "a", Pos: at(1)})
	reads(t, `<a x='1' y="&lt;&#65;"><b/>t<!-- c --><![CDATA[<]]></a>`, api.Node{
		Local: "a", Pos: at(1), Text: "t<",
		Attrs: []api.Attr{{Local: "x", Value: "1"}, {Local: "y", Value: "<A"}},
		Kids:  []api.Node{{Local: "b", Pos: at(24)}},
	})
	reads(t, `<p:a xmlns:p="u" p:x="1"/>`, api.Node{
		Space: "u", Local: "a", Pos: at(1), Attrs: []api.Attr{{Space: "u", Local: "x", Value: "1"}},
	})
}

// P8.1, examples 2 and 3.
func TestRefusalExamples(t *testing.T) {
	refuses(t, `<p:a/>`, at(1), api.ErrSpace)
	refuses(t, `<a b="1" b="2"/>`, at(10), api.ErrTwice)
	refuses(t, `<a>`, at(4), api.ErrOpen)
	refuses(t, `<a></b>`, at(6), api.ErrTag)
	refuses(t, `&`, at(1), api.ErrTag)
	refuses(t, `<a>&x;</a>`, at(4), api.ErrEntity)
	refuses(t, ``, at(1), api.ErrOpen)
	refuses(t, "<a>\n<", api.Pos{Line: 2, Col: 2}, api.ErrOpen)
}

// P8.1: what may stand around the one element.
func TestAround(t *testing.T) {
	for ahead, col := range map[string]int{
		"": 1, " ": 2, " \t\r": 4, "<!---->": 8, "<!-- <b> & ]]> -->": 19, "<!--a--> <!--b-->": 18,
		`<?xml version="1.0"?>`: 22, `<?xml version="1.0"?> <!---->`: 30, `<?xml version="1.0" encoding="UTF-8"?>`: 39,
	} {
		for _, behind := range []string{"", " ", "\n \n", "<!---->", " <!-- a -->\t<!--b-->", "<!-- - -a- ->-->"} {
			reads(t, ahead+"<a/>"+behind, api.Node{Local: "a", Pos: at(col)})
			reads(t, ahead+"<a></a>"+behind, api.Node{Local: "a", Pos: at(col)})
		}
	}
	for _, s := range []string{
		`<?xml version="1.0"?>` + `<?xml version="1.0"?><a/>`,
		` <?xml version="1.0"?><a/>`,
		"<!----><?xml version=\"1.0\"?><a/>",
		`<?xml version='1.0'?><a/>`, `<?xml version="1.1"?><a/>`, `<?xml  version="1.0"?><a/>`, `<?xml version="1.0" ?><a/>`,
		`<?xml version="1.0" encoding="utf-8"?><a/>`, `<?xml version="1.0" encoding='UTF-8'?><a/>`,
		`<?xml version="1.0" standalone="yes"?><a/>`, `<?XML version="1.0"?><a/>`, `<?a?><a/>`, `<?`, `<?xml version="1.0"?`,
		`<!DOCTYPE a><a/>`, `<![CDATA[a]]><a/>`, `<!`, `<!-`, `<!->`, "<!a", `<! -- --><a/>`,
		"a", "\x00", "\ufeff<a/>", "]]>", ">", "/", "\u00e9", "\xff", "&lt;<a/>", "\u00a0<a/>", "\v<a/>", "\f<a/>",
	} {
		col := 1
		switch s[0] {
		case ' ':
			col = 2
		case '<':
			if i := strings.LastIndex(s, "<?"); i > 0 {
				col = i + 1
			}
		}
		refuses(t, s, at(col), api.ErrTag)
	}
	for _, s := range []string{
		"<a/>", "<b/>", "</a>", "<", "<!", "<!-", "<![CDATA[]]>", "<?xml version=\"1.0\"?>", "<?", "< ", "<<", "<!DOCTYPE a>", "<&",
		"a", "&", "&lt;", "\x00", "\xc3", "\xc3\xa9", ">", "/>", "]]>", "\u00a0",
	} {
		refuses(t, "<a/>"+s, at(5), api.ErrTag)
		refuses(t, "<a></a>"+s, at(8), api.ErrTag)
		refuses(t, "<a/> \n "+s, api.Pos{Line: 2, Col: 2}, api.ErrTag)
		refuses(t, "<a/><!-- -->"+s, at(13), api.ErrTag)
	}
}

// P8.1: names.
func TestNames(t *testing.T) {
	long := "A" + strings.Repeat("z", 31)
	for _, n := range []string{"a", "z", "A", "Z", "_", "a0", "a9", "a-", "a.", "__", "a_b-c.d0", "xml", "xmlns", long} {
		reads(t, "<"+n+"/>", api.Node{Local: n, Pos: at(1)})
		reads(t, "<"+n+">t</"+n+">", api.Node{Local: n, Pos: at(1), Text: "t"})
		reads(t, "<p:"+n+" xmlns:p='u'/>", api.Node{Space: "u", Local: n, Pos: at(1)})
		if n != "xmlns" {
			reads(t, "<a "+n+"='1'/>", api.Node{Local: "a", Pos: at(1), Attrs: []api.Attr{{Local: n, Value: "1"}}})
		}
		reads(t, "<a xml:"+n+"='1'/>", api.Node{Local: "a", Pos: at(1), Attrs: []api.Attr{{Space: xmlSpace, Local: n, Value: "1"}}})
		if n != "xmlns" && n != "xml" {
			reads(t, "<"+n+":a xmlns:"+n+"='u'></"+n+":a>", api.Node{Space: "u", Local: "a", Pos: at(1)})
		}
	}
	for i := range 256 {
		b := string([]byte{byte(i)})
		first := strings.Contains("abcdefghijklmnopqrstuvwxyzABCDEFGHIJKLMNOPQRSTUVWXYZ_", b)
		further := first || strings.Contains("0123456789-.", b)
		if first {
			reads(t, "<"+b+"/>", api.Node{Local: b, Pos: at(1)})
			reads(t, "<xml:"+b+"/>", api.Node{Space: xmlSpace, Local: b, Pos: at(1)})
		} else {
			if b != "?" && b != "!" {
				refuses(t, "<"+b+"/>", at(2), api.ErrTag)
			}
			refuses(t, "<xml:"+b+"/>", at(6), api.ErrTag)
			refuses(t, "<xml:"+b, at(6), api.ErrTag)
			if !strings.Contains("/> \t\n\r", b) {
				refuses(t, "<a "+b+"='1'/>", at(4), api.ErrTag)
			}
			refuses(t, "<a xml:"+b+"='1'/>", at(8), api.ErrTag)
			refuses(t, "<a></"+b+"a>", at(6), api.ErrTag)
			refuses(t, "<xml:a></xml:"+b+">", at(14), api.ErrTag)
		}
		if further {
			reads(t, "<a"+b+"/>", api.Node{Local: "a" + b, Pos: at(1)})
			reads(t, "<xml:a"+b+"/>", api.Node{Space: xmlSpace, Local: "a" + b, Pos: at(1)})
		} else if !strings.Contains("/> \t\n\r:", b) {
			refuses(t, "<a"+b+"/>", at(3), api.ErrTag)
			refuses(t, "<xml:a"+b+"/>", at(7), api.ErrTag)
			refuses(t, "<a></a"+b+">", at(7), api.ErrTag)
			if b != "=" {
				refuses(t, "<a b"+b+"='1'/>", at(5), api.ErrTag)
			}
		}
	}
	refuses(t, "<a:/>", at(4), api.ErrTag)
	refuses(t, "<a :b/>", at(4), api.ErrTag)
	refuses(t, "<a: b/>", at(4), api.ErrTag)
	refuses(t, "<a:b:c/>", at(5), api.ErrTag)
	refuses(t, "<a b:c:d='1'/>", at(7), api.ErrTag)
	refuses(t, "<a></a:>", at(8), api.ErrTag)
	refuses(t, "<a></b:1>", at(8), api.ErrTag)
}

// P8.1: parts of names that are too long, told also where the text ends, and ahead of what stands behind them.
func TestLongNames(t *testing.T) {
	long := strings.Repeat("b", 33)
	for _, behind := range []string{"", "b", "/>", ">", "=", ":", "\x00", "&", " "} {
		refuses(t, "<"+long+behind, at(2), api.ErrFull)
		refuses(t, "<a:"+long+behind, at(4), api.ErrFull)
		refuses(t, "<a>\n<"+long+behind, api.Pos{Line: 2, Col: 2}, api.ErrFull)
		refuses(t, "<a "+long+behind, at(4), api.ErrFull)
		refuses(t, "<a b='1' b:"+long+behind, at(12), api.ErrFull)
		refuses(t, "<a></"+long+behind, at(6), api.ErrFull)
		refuses(t, "<a></b:"+long+behind, at(8), api.ErrFull)
		refuses(t, "<a xmlns:"+long+behind, at(10), api.ErrFull)
	}
	refuses(t, "<"+long[1:], at(34), api.ErrOpen)
	refuses(t, "<"+strings.Repeat("b", 60000), at(2), api.ErrFull)
}

// P8.1: attributes, and what may stand between their parts.
func TestAttributes(t *testing.T) {
	one := func(v string) api.Node {
		return api.Node{Local: "a", Pos: at(1), Attrs: []api.Attr{{Local: "b", Value: v}}}
	}
	for _, s := range []string{
		`<a b="1"/>`, `<a b='1'/>`, "<a \t\r\nb='1'/>", "<a b = '1'/>", "<a b\n\n=\t\t'1' />", "<a b='1'\n></a>", "<a b='1'></a\n\t >", "<a b='1'></a>",
	} {
		reads(t, s, one("1"))
	}
	for s, want := range map[string]string{
		`""`: "", `''`: "", `"'"`: "'", `'"'`: `"`, `" "`: " ", "'\t\n\r'": "   ", "'&#9;&#10;&#13;&#xa;'": "\t\n\r\n", `">"`: ">", `"]]>"`: "]]>",
		`"--"`: "--", `"/>"`: "/>", `"&lt;&gt;&amp;&quot;&apos;"`: `<>&"'`, `"&amp;lt;"`: "&lt;", `"é€😀"`: "é€😀", "'\u0085\ufffd\ud7ff\ue000'": "\u0085\ufffd\ud7ff\ue000",
		"'=a b='": "=a b=", "'<!--'": "-", "'\n'": " ", `'a&#0000065;z'`: "aAz",
	} {
		if want == "-" {
			refuses(t, "<a b="+s+"/>", at(7), api.ErrTag)
			continue
		}
		reads(t, "<a b="+s+"/>", one(want))
	}
	for s, col := range map[string]int{
		"<a b=1/>": 6, "<a b='1'c='2'/>": 9, "<a b/>": 5, "<a b>": 5, "<a b c='1'>": 6, "<a b=>": 6, "<a b==''>": 6, "<a b='1''2'>": 9, "<a='1'>": 3,
		"<a b='<'/>": 7, "<a b='\x00'/>": 7, "<a b='é\xc3'/>": 9, "<a b='\x0b'/>": 7, "<a b='\ufffe'/>": 7, "<a b='\xed\xa0\x80'/>": 7, "<a / >": 5, "<a /": 0, "<a/a>": 4,
		"<a b='1'/ >": 10, "<a b\"1\"/>": 5, "<a b=`1`/>": 6, "<a ='1'/>": 4, "<a b='1\" c='2'/>": 13, "< a/>": 2, "<a></ a>": 6, "<a></a b>": 8, "<a></a/>": 7, "<a></a b='1'>": 8,
		"<a></>": 6, "<a><//a>": 6, "<>": 2, "</a>": 2, "<<a/>": 2, "<a<": 3, "<a <": 4, "<a b<": 5, "<a b=<": 6, "<a b='1'<": 9, "<1": 2, "<a/><": 5,
	} {
		if col == 0 {
			refuses(t, s, at(len(s)+1), api.ErrOpen)
			continue
		}
		refuses(t, s, at(col), api.ErrTag)
	}
	reads(t, "<a c='2' b='1' _='3' c.='4'/>", api.Node{Local: "a", Pos: at(1), Attrs: []api.Attr{
		{Local: "c", Value: "2"}, {Local: "b", Value: "1"}, {Local: "_", Value: "3"}, {Local: "c.", Value: "4"},
	}})
}

// P8.1: what stands in an element.
func TestInside(t *testing.T) {
	for s, want := range map[string]string{
		"": "", "t": "t", " \t\r\n": " \t\r\n", "a<!-- b -->c": "ac", "<![CDATA[]]>": "", "<![CDATA[<b>&lt;]]>": "<b>&lt;", "a<![CDATA[b]]>c": "abc",
		"<![CDATA[]]]>": "]", "<![CDATA[]]]]>": "]]", "<![CDATA[]>]]>": "]>", "<![CDATA[<![CDATA[]]>": "<![CDATA[", "<![CDATA[-->]]>": "-->",
		"]]": "]]", "]>": "]>", "]] >": "]] >", "]]&gt;": "]]>", "]]<!---->>": "]]>", "]<![CDATA[]]]>>": "]]>", "]<![CDATA[]>]]>": "]]>", "&#93;]>": "]]>", "]&#x5d;>": "]]>",
		">": ">", "\"'": "\"'", "/>": "/>", "--": "--", "-->": "-->", "=": "=", "é€😀": "é€😀", "&amp;amp;": "&amp;", "&lt;b&gt;": "<b>",
		"<!--&-->": "", "<!--<b>-->": "", "<!--]]>-->": "", "<!-->-->": "", "<!--->-->": "", "<!-- - -->": "", "<!---a-->": "", "<!--\n\r\t-->": "", "<!--é😀-->": "",
		"\ufffd\ud7ff\ue000\U00010000\U0010ffff\u007f\u0080": "\ufffd\ud7ff\ue000\U00010000\U0010ffff\u007f\u0080",
	} {
		reads(t, "<a>"+s+"</a>", api.Node{Local: "a", Pos: at(1), Text: want})
	}
	for s, col := range map[string]int{
		"]]>": 4, "]]]>": 5, "a]]]]>": 7, "&lt;]]>": 8, "<!": 4, "<!a>": 4, "<!-": 4, "<!->": 4, "<!-a-->": 4, "<![": 4, "<![CDATA": 4, "<![cdata[]]>": 4, "<![CDATA []]>": 4, "<? ?>": 4, "<?": 4,
		"<!-- -- -->": 9, "<!-- --": 9, "<!----": 8, "<!---": 0, "<!-- --->": 9, "<!----->": 8, "<!--a--b": 9, "<!--\x00-->": 8, "<!--\xff": 8, "<!--é\xe2\x82": 10, "<!--\ufffe-->": 8,
		"\x00": 4, "\x08": 4, "\x0b": 4, "\x0c": 4, "\x1f": 4, "\xc3": 4, "\xc3a": 4, "\x80": 4, "a\xe2\x82": 5, "\xed\xa0\x80": 4, "\xc0\x80": 4, "\uffff": 4, "\xf4\x90\x80\x80": 4, "é\xff": 6,
		"<![CDATA[\x00]]>": 13, "<![CDATA[\xc3": 13, "<![CDATA[é\xc3]]>": 15, "<![CDATA[\uffff]]>": 13,
		"< b/>": 5, "<1/>": 5, "<": 0, "<b>": 0, "<b></a>": 9, "</": 0, "</b></b>": 6, "<b/": 0, "<b/>": 0, "<!--": 0, "<!-- -": 0, "<!-- ->": 0, "<![CDATA[": 0, "<![CDATA[]": 0, "<![CDATA[]]": 0, "]]": 0,
	} {
		if col == 0 {
			refuses(t, "<a>"+s, at(len(s)+4), api.ErrOpen)
			continue
		}
		refuses(t, "<a>"+s, at(col), api.ErrTag)
		if s != "</b></b>" && len(s) > 3 && strings.HasSuffix(s, ">") && !strings.HasSuffix(s, "/>") {
			refuses(t, "<a>"+s+"</a>", at(col), api.ErrTag)
		}
	}
	refuses(t, "<!-- --><!-- --", at(14), api.ErrTag)
	refuses(t, "<!--a--b--><a/>", at(6), api.ErrTag)
	refuses(t, "<a/><!--a--->", at(10), api.ErrTag)
}

// P8.1: ends of elements have the names of their begins, prefix and local part.
func TestEnds(t *testing.T) {
	for s, col := range map[string]int{
		"<ab></a>": 7, "<ab></a": 7, "<ab></abc": 7, "<ab></AB>": 7, "<ab></b": 7, "<ab></ab": 0, "<ab></ab ": 0, "<ab></": 0, "<ab></ab:": 0, "<ab></ab:c": 7,
		"<p:a xmlns:p='u'></a>": 20, "<p:a xmlns:p='u'></a": 20, "<p:a xmlns:p='u'></p": 20, "<p:a xmlns:p='u'></p:": 0, "<p:a xmlns:p='u'></p:a": 0, "<p:a xmlns:p='u'></p:b": 20,
		"<p:a xmlns:p='u'></p:ab": 20, "<p:a xmlns:p='u' xmlns:q='u'></q:a>": 32, "<a xmlns:p='u' xmlns='u'></p:a>": 28, "<a><b></a></b>": 9, "<a><b></b></b>": 13, "<a></b c>": 6,
	} {
		if col == 0 {
			refuses(t, s, at(len(s)+1), api.ErrOpen)
			continue
		}
		refuses(t, s, at(col), api.ErrTag)
	}
}

// P8.1: references.
func TestReferences(t *testing.T) {
	for s, want := range map[string]string{
		"&lt;": "<", "&gt;": ">", "&amp;": "&", "&quot;": `"`, "&apos;": "'", "&#65;": "A", "&#9;": "\t", "&#10;": "\n", "&#13;": "\r", "&#32;": " ", "&#0000032;": " ",
		"&#1114111;": "\U0010ffff", "&#55295;": "\ud7ff", "&#57344;": "\ue000", "&#65533;": "\ufffd", "&#65536;": "\U00010000", "&#0000009;": "\t",
		"&#x41;": "A", "&#x9;": "\t", "&#xA;": "\n", "&#xa;": "\n", "&#xd;": "\r", "&#x00000D;": "\r", "&#x20;": " ", "&#xD7FF;": "\ud7ff", "&#xe000;": "\ue000", "&#xFffD;": "\ufffd",
		"&#x10000;": "\U00010000", "&#x10FFFF;": "\U0010ffff", "&#x10ffff;": "\U0010ffff", "&#60;": "<", "&#38;lt;": "&lt;",
	} {
		reads(t, "<a>"+s+"</a>", api.Node{Local: "a", Pos: at(1), Text: want})
		reads(t, "<a b='"+s+"'/>", api.Node{Local: "a", Pos: at(1), Attrs: []api.Attr{{Local: "b", Value: want}}})
	}
	for _, s := range []string{
		"&", "&;", "& ", "&&", "&l", "&lt", "&lt ", "&LT;", "&Lt;", "&nbsp;", "&a;", "&lt&gt;", "& lt;", "&lt ;", "&ltt;", "&am;", "&quote;", "&apo;",
		"&#", "&#;", "&#x", "&#x;", "&#X41;", "&#a;", "&#-1;", "&#+65;", "&# 65;", "&#65 ;", "&#6_5;", "&#65", "&#6", "&#x4", "&#x41", "&#xg;", "&#x+4;", "&#x-4;", "&#0x41;", "&#x0x4;", "&#65.;", "&x41;", "&65;",
		"&#0;", "&#8;", "&#11;", "&#12;", "&#14;", "&#31;", "&#55296;", "&#57343;", "&#65534;", "&#65535;", "&#1114112;", "&#9999999;", "&#00000065;", "&#10000000;", "&#4294967361;", "&#99999999999999999999;",
		"&#x0;", "&#x8;", "&#xB;", "&#xC;", "&#x1f;", "&#xD800;", "&#xDFFF;", "&#xFFFE;", "&#xFFFF;", "&#x110000;", "&#xFFFFFF;", "&#x0000041;", "&#x100000041;", "&#\u0661;", "&#\xff;", "&<b/>", "&\x00", "&]]>",
		"&#xabcdef;", "&" + strings.Repeat("a", 1000),
	} {
		refuses(t, "<a>"+s, at(4), api.ErrEntity)
		refuses(t, "<a>"+s+"</a>", at(4), api.ErrEntity)
		refuses(t, "<a b='"+s, at(7), api.ErrEntity)
		refuses(t, "<a>;;\n"+s+"</a>;", api.Pos{Line: 2, Col: 1}, api.ErrEntity)
	}
}

// P8.1: each number of a character, and no other one, is read from a reference.
func TestReferenceNumbers(t *testing.T) {
	for c := range 1114112 + 300 {
		if c > 300 && c%97 != 0 && c < 55000 || c > 58000 && c < 65000 && c%89 != 0 || c > 66000 && c < 1114000 && c%1009 != 0 {
			continue
		}
		for _, s := range []string{"&#" + strconv.Itoa(c) + ";", "&#x" + strconv.FormatInt(int64(c), 16) + ";"} {
			if char(c) {
				reads(t, "<a>"+s+"</a>", api.Node{Local: "a", Pos: at(1), Text: string(rune(c))})
			} else {
				refuses(t, "<a>"+s+"</a>", at(4), api.ErrEntity)
			}
		}
	}
}

// char says whether a number is that of a character, as the chapter's words list them.
func char(c int) bool {
	return c == 9 || c == 10 || c == 13 || c >= 0x20 && c <= 0xD7FF || c >= 0xE000 && c <= 0xFFFD || c >= 0x10000 && c <= 0x10FFFF
}

// P8.1: each character, and no other one, is read as it stands.
func TestCharacters(t *testing.T) {
	for c := range 1114112 {
		if c > 300 && c%97 != 0 && c < 55000 || c > 58000 && c < 65000 && c%89 != 0 || c > 66000 && c < 1114000 && c%1009 != 0 {
			continue
		}
		s := string(rune(c))
		if c >= 0xD800 && c <= 0xDFFF {
			s = string([]byte{0xED, 0x80 | byte(c>>6&0x3F), 0x80 | byte(c&0x3F)})
		}
		if strings.Contains("<&", s) {
			continue
		}
		if !char(c) {
			refuses(t, "<a>é"+s+"</a>", at(6), api.ErrTag)
			refuses(t, "<a b='"+s+"'/>", at(7), api.ErrTag)
			refuses(t, "<!--"+s+"--><a/>", at(5), api.ErrTag)
			refuses(t, "<a><![CDATA["+s+"]]></a>", at(13), api.ErrTag)
			continue
		}
		reads(t, "<a>"+s+"</a>", api.Node{Local: "a", Pos: at(1), Text: s})
		reads(t, "<a><![CDATA["+s+"]]></a>", api.Node{Local: "a", Pos: at(1), Text: s})
		if s != "'" && s != "\t" && s != "\n" && s != "\r" {
			reads(t, "<a b='"+s+"'/>", api.Node{Local: "a", Pos: at(1), Attrs: []api.Attr{{Local: "b", Value: s}}})
		}
		if s != "-" && s != "\n" {
			reads(t, "<!--"+s+"--><a/>", api.Node{Local: "a", Pos: at(8 + len(s))})
		}
	}
}

// P8.4: nodes' places, by lines and bytes.
func TestPlaces(t *testing.T) {
	n := read(t, "<!--\n-->\n <a b='\n'>é\r<b\n/><c><!--\n\n--><d/>é😀<e/></c>\n</a>")
	places := []api.Pos{n.Pos, n.Kids[0].Pos, n.Kids[1].Pos, n.Kids[1].Kids[0].Pos, n.Kids[1].Kids[1].Pos}
	want := []api.Pos{{Line: 3, Col: 2}, {Line: 4, Col: 6}, {Line: 5, Col: 3}, {Line: 7, Col: 4}, {Line: 7, Col: 14}}
	if !reflect.DeepEqual(places, want) {
		t.Errorf("places %v, not %v", places, want)
	}
	refuses(t, "<a>\n", api.Pos{Line: 2, Col: 1}, api.ErrOpen)
	refuses(t, "<a>\n\n\n  ", api.Pos{Line: 4, Col: 3}, api.ErrOpen)
	refuses(t, "<a>\r", at(5), api.ErrOpen)
	refuses(t, "<a>\r\n&", api.Pos{Line: 2, Col: 1}, api.ErrEntity)
	refuses(t, "\n<a\n\n b=''\n  b", api.Pos{Line: 5, Col: 3}, api.ErrTwice)
	refuses(t, "<!--\n\n --", api.Pos{Line: 3, Col: 2}, api.ErrTag)
	refuses(t, "<a><![CDATA[\n]]>\x00", api.Pos{Line: 2, Col: 4}, api.ErrTag)
	refuses(t, "<a\n>&#10;</a\n><", api.Pos{Line: 3, Col: 2}, api.ErrTag)
}
