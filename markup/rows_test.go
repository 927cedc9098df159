package markup_test

import (
	"encoding/xml"
	"io"
	"math/rand"
	"reflect"
	"strconv"
	"strings"
	"testing"

	"tollgate/api"
	"tollgate/markup"
)

// Kinds of tokens, by what is answered where a text ends within one.
const (
	open      = iota // ErrOpen, behind the last byte
	whole            // ErrTag, where the token begins
	wholeSign        // so, but ErrOpen behind its first byte
	late             // so, but ErrOpen behind its first byte: a comment's end
	reference        // ErrEntity, where the token begins
	endName          // ErrTag, where the token begins, but ErrOpen behind a :
	attrName         // ErrTwice, where the token begins, if it is an attribute's name ahead
)

// token is a piece of a text.
type token struct {
	kind int
	say  string
	seen []string // attributes' names ahead, of an attrName
}

// writer writes texts at random, with the nodes as which they must be read.
type writer struct {
	*rand.Rand
	tokens []token
	at     int
	line   int
	begin  int
	nodes  int
	spaces []string // namespaces that are used, but for "" and that of xml
}

// say writes a token.
func (w *writer) say(kind int, s string) {
	w.tokens = append(w.tokens, token{kind: kind, say: s})
	for i := range len(s) {
		w.at++
		if s[i] == '\n' {
			w.line++
			w.begin = w.at
		}
	}
}

// place is where the next token begins.
func (w *writer) place() api.Pos {
	return api.Pos{Line: w.line, Col: w.at - w.begin + 1}
}

// pick is one of these.
func (w *writer) pick(l ...string) string { return l[w.Intn(len(l))] }

// blanks writes some, at least so many.
func (w *writer) blanks(least int) {
	for i := 0; i < least || w.Intn(3) == 0; i++ {
		w.say(open, w.pick(" ", "\t", "\n", "\r"))
	}
}

// chars writes characters one by one, as they may stand there, and is told which they are.
func (w *writer) chars(most int, hinder string, asValue bool) string {
	var all strings.Builder
	for range w.Intn(most + 1) {
		c := w.pick("a", "B", "é", "€", "😀", " ", "\n", "\t", "\r", "<", ">", "&", "\"", "'", "]", "-", "/", "=", "\x7f", "\ufffd")
		n := int([]rune(c)[0])
		switch {
		case !strings.Contains(hinder, c) && w.Intn(4) > 0:
			if len(c) > 1 {
				w.say(whole, c)
			} else {
				w.say(open, c)
			}
			if asValue && strings.Contains("\t\n\r", c) {
				c = " "
			}
		case strings.Contains("<>&\"'", c) && w.Intn(2) == 0:
			w.say(reference, map[string]string{"<": "&lt;", ">": "&gt;", "&": "&amp;", "\"": "&quot;", "'": "&apos;"}[c])
		case w.Intn(2) == 0:
			w.say(reference, "&#"+strconv.Itoa(n)+";")
		default:
			w.say(reference, "&#x"+w.pick("", "0")+w.pick(strconv.FormatInt(int64(n), 16), strings.ToUpper(strconv.FormatInt(int64(n), 16)))+";")
		}
		all.WriteString(c)
	}
	return all.String()
}

// comment writes a comment.
func (w *writer) comment() {
	w.say(wholeSign, "<!--")
	for range w.Intn(4) {
		c := w.pick("a", " ", "\n", "<", "&", "]]>", "-a", "- ", "é", "😀", "->b", "<a>")
		if c == "é" || c == "😀" {
			w.say(whole, c)
		} else {
			w.say(open, c)
		}
	}
	w.say(late, "-->")
}

// around writes what may stand beside the one element.
func (w *writer) around() {
	w.blanks(0)
	for w.Intn(3) == 0 {
		w.comment()
		w.blanks(0)
	}
}

// element writes an element, where it is known for what prefixes stand.
func (w *writer) element(known map[string]string, deep int) api.Node {
	w.nodes++
	node := api.Node{Pos: w.place()}
	w.say(open, "<")
	mine := map[string]string{}
	for p, s := range known {
		mine[p] = s
	}
	fresh := map[string]string{}
	for range w.Intn(3) {
		if p := w.pick("", "p", "q", "p.1"); len(w.spaces) > 0 {
			fresh[p] = w.spaces[w.Intn(len(w.spaces))]
			mine[p] = fresh[p]
		}
	}
	prefix, name := w.named(mine)
	node.Space, node.Local = mine[prefix], name[strings.Index(name, ":")+1:]
	w.say(open, name)
	node.Attrs = w.attrs(mine, fresh)
	w.blanks(0)
	if w.Intn(3) == 0 {
		w.say(open, "/>")
		return node
	}
	w.say(open, ">")
	w.inside(&node, mine, deep)
	w.say(open, "</")
	w.say(endName, name)
	w.blanks(0)
	w.say(open, ">")
	return node
}

// named is a name with a prefix that stands for something, and the prefix.
func (w *writer) named(known map[string]string) (string, string) {
	for {
		p := w.pick("", "", "p", "q", "p.1", "xml")
		if _, ok := known[p]; ok || p == "" {
			n := w.pick("a", "ab", "abc", "b", "_-.9", "Z", "xmlnsx", "xml")
			if p != "" {
				n = p + ":" + n
			}
			return p, n
		}
	}
}

// attrs writes attributes, with those that say for what prefixes stand.
func (w *writer) attrs(known, fresh map[string]string) []api.Attr {
	var l []api.Attr
	var seen []string
	say := func(name string) {
		w.blanks(1)
		w.say(attrName, name)
		w.tokens[len(w.tokens)-1].seen = seen
		seen = append(seen[:len(seen):len(seen)], name)
		w.blanks(0)
		w.say(open, "=")
		w.blanks(0)
	}
	for _, p := range []string{"", "p", "q", "p.1"} {
		s, ok := fresh[p]
		if !ok {
			continue
		}
		name := "xmlns"
		if p != "" {
			name = "xmlns:" + p
		}
		say(name)
		w.say(open, `"`)
		for _, c := range s {
			if c >= 0x80 {
				w.say(whole, string(c))
			} else {
				w.say(open, string(c))
			}
		}
		w.say(open, `"`)
	}
	for range w.Intn(4) {
		p, n := w.named(known)
		a := api.Attr{Local: n[strings.Index(n, ":")+1:]}
		if p != "" {
			a.Space = known[p]
		}
		twice := false
		for _, b := range l {
			twice = twice || a.Space == b.Space && a.Local == b.Local
		}
		if twice || a.Space == "" && p != "" {
			continue
		}
		say(n)
		quote := w.pick("'", `"`)
		w.say(open, quote)
		a.Value = w.chars(5, "<&"+quote, true)
		w.say(open, quote)
		l = append(l, a)
	}
	return l
}

// inside writes what is in an element.
func (w *writer) inside(node *api.Node, known map[string]string, deep int) {
	for range w.Intn(5) {
		switch w.Intn(5) {
		case 0:
			w.comment()
		case 1:
			w.say(wholeSign, "<![CDATA[")
			s := w.pick("", "<b>", "&lt;", "]]", "]", "--", "a\nb")
			w.say(open, s)
			w.say(open, "]]>")
			node.Text += s
		case 2:
			if deep < api.MaxNest-1 && w.nodes < 60 {
				node.Kids = append(node.Kids, w.element(known, deep+1))
			}
		default:
			// A > is written otherwise, so that it stands behind no ]].
			node.Text += w.chars(5, "<&>", false)
		}
	}
}

// text is a whole text.
func (w *writer) text() (string, api.Node, int) {
	w.line = 1
	switch w.Intn(4) {
	case 0:
		w.say(wholeSign, `<?xml version="1.0"?>`)
	case 1:
		w.say(wholeSign, `<?xml version="1.0" encoding="UTF-8"?>`)
	}
	w.around()
	node := w.element(map[string]string{"": "", "xml": xmlSpace}, 0)
	behind := len(w.tokens)
	w.around()
	var b strings.Builder
	for _, x := range w.tokens {
		b.WriteString(x.say)
	}
	return b.String(), node, behind
}

// write is a text at random.
func write(seed int64) (*writer, string, api.Node, int) {
	w := &writer{Rand: rand.New(rand.NewSource(seed)), spaces: []string{"u", "v", "http://w", "é"}}
	s, node, behind := w.text()
	return w, s, plain(node), behind
}

// P8.1, P8.3: texts at random are read as what they were written for.
func TestRows(t *testing.T) {
	for seed := range int64(4000) {
		_, s, node, _ := write(seed)
		n, p, e := markup.Parse(s)
		if e != api.OK || p != (api.Pos{}) || !reflect.DeepEqual(plain(n), node) {
			t.Fatalf("seed %d: Parse(%q): %+v, %v at %v, not %+v", seed, s, n, e, p, node)
		}
	}
}

// cut is what is answered where a text ends behind so many bytes of a token.
func cut(x token, n int, outside bool) (atBegin bool, e api.Errno) {
	s := x.say[:n]
	switch x.kind {
	case whole:
		return true, api.ErrTag
	case wholeSign:
		return n > 1 || outside, api.ErrTag
	case late:
		return n > 1, api.ErrTag
	case reference:
		return true, api.ErrEntity
	case endName:
		return !strings.HasSuffix(s, ":"), api.ErrTag
	case attrName:
		for _, name := range x.seen {
			if name == s {
				return true, api.ErrTwice
			}
		}
	}
	return false, api.ErrOpen
}

// P8.1, P8.4: each text that ends too early is refused where it ends, but for what the errors' table lists.
func TestCut(t *testing.T) {
	for seed := range int64(700) {
		w, s, node, behind := write(seed)
		from, place, comment := 0, api.Pos{Line: 1, Col: 1}, false
		for i, x := range w.tokens {
			begin := place
			for n := range len(x.say) {
				short := s[:from+n]
				if atBegin, e := cut(x, n, i >= behind); n > 0 && atBegin {
					refuses(t, short, begin, e)
				} else if i < behind || comment {
					refuses(t, short, place, api.ErrOpen)
				} else {
					reads(t, short, node)
				}
				place.Col++
				if x.say[n] == '\n' {
					place = api.Pos{Line: place.Line + 1, Col: 1}
				}
			}
			from += len(x.say)
			comment = (comment || x.say == "<!--") && x.kind != late
		}
		if t.Failed() {
			t.Fatalf("seed %d: %q", seed, s)
		}
	}
}

// offset is the byte at which a place is.
func offset(s string, p api.Pos) int {
	from := 0
	for range p.Line - 1 {
		from += strings.IndexByte(s[from:], '\n') + 1
	}
	return from + p.Col - 1
}

// spoil is a text with something put in, left out or put in another place.
func spoil(w *rand.Rand, s string) string {
	for range 1 + w.Intn(2) {
		i := w.Intn(len(s) + 1)
		j := min(len(s), i+w.Intn(3))
		l := []string{
			"", "<", ">", "/", "&", "\"", "'", "=", " ", "\n", "-", "--", "]]>", "<!--", "-->", "<![CDATA[", "<?", "<!", "a", ":", "p:", "xmlns", "xmlns:p", " a=''", " a='' a=''", " p:a=''",
			"<a>", "</a>", "<p:a/>", "&lt;", "&x;", "&#0;", "\x00", "\x80", "\xc3", "\xff", "é", strings.Repeat("n", 33), strings.Repeat("<a>", 16), " xmlns:p=''", " xmlns='u'", " xmlns:p='u' xmlns:q='u' p:z='' q:z=''", ";", "#",
		}
		s = s[:i] + l[w.Intn(len(l))] + s[j:]
	}
	return s
}

// P8.4: what stands ahead of a place that is refused is refused where it ends, for want of more (or it was read whole); and whatever stands behind the place it is not refused ahead of it.
func TestSpoilt(t *testing.T) {
	count := map[api.Errno]int{}
	for seed := range int64(40000) {
		w, s, _, _ := write(seed % 4000)
		s = spoil(w.Rand, s)
		n, p, e := markup.Parse(s)
		count[e]++
		if e == api.OK {
			within(t, s, n)
			continue
		}
		if !reflect.DeepEqual(n, api.Node{}) {
			t.Fatalf("Parse(%q): %+v, beside an error", s, n)
		}
		i := offset(s, p)
		if i < 0 || i > len(s) || i < len(s) == (e == api.ErrOpen) {
			t.Fatalf("Parse(%q): %v at %v", s, e, p)
		}
		if _, q, f := markup.Parse(s[:i]); f != api.OK && (f != api.ErrOpen || q != p) || f == api.OK && e != api.ErrTag {
			t.Fatalf("Parse(%q): %v at %v; Parse(%q): %v at %v", s, e, p, s[:i], f, q)
		}
		if e == api.ErrOpen || e == api.ErrTag || e == api.ErrEntity {
			other := s[:i] + w.pick("", "<", ">", "a", "&", " ", "'", `"`, "-->", "]]>", "\x00", "lt;", ":", "--") + spoil(w.Rand, s[i:])
			if _, q, f := markup.Parse(other); f == api.ErrOpen || f == api.ErrTag || f == api.ErrEntity {
				if k := offset(other, q); k < i && !begins(other[k:i], f) {
					t.Fatalf("Parse(%q): %v at %v; Parse(%q): %v at %v", s, e, p, other, f, q)
				}
			}
		}
	}
	for _, e := range []api.Errno{api.OK, api.ErrOpen, api.ErrTag, api.ErrEntity, api.ErrSpace, api.ErrTwice, api.ErrFull, api.ErrDeep} {
		if count[e] < 20 {
			t.Errorf("%v: %d times", e, count[e])
		}
	}
}

// begins says whether what was read since a place may be refused there by an error that is told at a begin: of a tag, a sign, a name, a character or a reference.
func begins(read string, e api.Errno) bool {
	return e == api.ErrEntity && read[0] == '&' || e == api.ErrTag && (strings.Contains("<-]", read[:1]) || read[0] >= 0x80 || !strings.ContainsAny(read, " \t\r\n<>&'\"="))
}

// within asks of each node's place that a < stands there, and that places rise.
func within(t *testing.T, s string, n api.Node) {
	t.Helper()
	last := -1
	var walk func(n api.Node)
	walk = func(n api.Node) {
		i := offset(s, n.Pos)
		if i <= last || s[i] != '<' {
			t.Fatalf("Parse(%q): a node at %v", s, n.Pos)
		}
		last = i
		for _, k := range n.Kids {
			walk(k)
		}
	}
	walk(n)
}

// P8.1: what is read is read by the library's own reader, too, and as the same.
func TestLibrary(t *testing.T) {
	for seed := range int64(3000) {
		w, s, _, _ := write(seed)
		if seed%2 == 1 {
			s = spoil(w.Rand, s)
		}
		// The library reads a 0D that stands in the text as a 0A, as all of XML does, and keeps blanks of attributes.
		s = strings.NewReplacer("\r", " ", "\t", " ", "\n", " ").Replace(s)
		n, _, e := markup.Parse(s)
		if e != api.OK {
			continue
		}
		if m, ok := byLibrary(s); !ok || !reflect.DeepEqual(m, unplaced(n)) {
			t.Fatalf("Parse(%q): %+v; the library: %+v, %v", s, n, m, ok)
		}
	}
}

// unplaced is a node without places, as plain as one of the library.
func unplaced(n api.Node) api.Node {
	n = plain(n)
	n.Pos = api.Pos{}
	for i := range n.Kids {
		n.Kids[i] = unplaced(n.Kids[i])
	}
	return n
}

// byLibrary is the node as which the library reads a text.
func byLibrary(s string) (api.Node, bool) {
	d := xml.NewDecoder(strings.NewReader(s))
	stack := []api.Node{{}}
	for {
		x, err := d.Token()
		if err == io.EOF && len(stack) == 1 && len(stack[0].Kids) == 1 {
			return plain(stack[0].Kids[0]), true
		}
		if err != nil {
			return api.Node{}, false
		}
		top := &stack[len(stack)-1]
		switch y := x.(type) {
		case xml.StartElement:
			n := api.Node{Space: y.Name.Space, Local: y.Name.Local}
			for _, a := range y.Attr {
				if a.Name.Space != "xmlns" && a.Name != (xml.Name{Local: "xmlns"}) {
					n.Attrs = append(n.Attrs, api.Attr{Space: a.Name.Space, Local: a.Name.Local, Value: a.Value})
				}
			}
			stack = append(stack, n)
		case xml.EndElement:
			stack = stack[:len(stack)-1]
			stack[len(stack)-1].Kids = append(stack[len(stack)-1].Kids, *top)
		case xml.CharData:
			top.Text += string(y)
		}
	}
}

// spell writes a node with Escape, each namespace by a prefix of its own, with blanks and comments at random where they say nothing.
func spell(w *rand.Rand, n api.Node, prefixes map[string]string, root bool) string {
	blank := func() string { return []string{"", " ", "\n\t"}[w.Intn(3)] }
	escape := func(s string) string {
		e, _ := markup.Escape(s)
		return e
	}
	named := func(space, local string) string {
		if space == "" {
			return local
		}
		return prefixes[space] + ":" + local
	}
	var b strings.Builder
	name := named(n.Space, n.Local)
	b.WriteString("<" + name)
	if root {
		for space, p := range prefixes {
			if p != "xml" {
				b.WriteString(" xmlns:" + p + `="` + escape(space) + `"`)
			}
		}
	}
	for _, a := range n.Attrs {
		b.WriteString(" " + blank() + named(a.Space, a.Local) + blank() + "=" + blank() + `"` + escape(a.Value) + `"`)
	}
	b.WriteString(blank() + ">")
	if w.Intn(2) == 0 {
		b.WriteString("<!-- & -->")
	}
	b.WriteString(escape(n.Text))
	for _, k := range n.Kids {
		b.WriteString("<!---->" + spell(w, k, prefixes, false))
	}
	b.WriteString("</" + name + blank() + ">")
	return b.String()
}

// P8.3, P8.5: a node that is written with Escape is read as that node, whatever the prefixes are; it is the same but for places.
func TestBack(t *testing.T) {
	for seed := range int64(2000) {
		w, _, node, _ := write(seed)
		for _, prefixes := range []map[string]string{
			{"u": "p", "v": "q", "http://w": "r", "é": "s", xmlSpace: "xml"},
			{"u": "q", "v": "p", "http://w": "_", "é": "a.-1", xmlSpace: "X"},
		} {
			s := "<!-- -->" + spell(w.Rand, node, prefixes, true) + "\n"
			if n := read(t, s); !reflect.DeepEqual(unplaced(n), unplaced(node)) {
				t.Fatalf("Parse(%q): %+v, not %+v", s, n, node)
			}
		}
	}
}

// P8.3: texts of all sorts are back from an attribute and from an element, as they were.
func TestEscapeBack(t *testing.T) {
	w := rand.New(rand.NewSource(1))
	for range 5000 {
		var b strings.Builder
		for range w.Intn(12) {
			b.WriteString([]string{"<", ">", "&", `"`, "'", "\t", "\n", "\r", " ", "]", "]]>", "a", "é", "😀", "&lt;", "--", "\x7f", "\u0085", "\u2028"}[w.Intn(19)])
		}
		s, ok := markup.Escape(b.String())
		if !ok {
			t.Fatalf("Escape(%q): none", b.String())
		}
		for _, quote := range []string{`"`, "'"} {
			if quote == "'" && strings.Contains(s, "'") {
				continue
			}
			reads(t, "<a b="+quote+s+quote+">"+s+"</a>", api.Node{
				Local: "a", Pos: at(1), Text: b.String(), Attrs: []api.Attr{{Local: "b", Value: b.String()}},
			})
		}
	}
}

// R1, R2, R4: whatever bytes come in, Parse ends, and answers the same once more.
func TestAnyBytes(t *testing.T) {
	w := rand.New(rand.NewSource(2))
	signs := []string{"<", "</", "/>", ">", "a", "a:b", " ", "=", "'", "\"", "<!--", "-->", "<![CDATA[", "]]>", "&lt;", "&#", ";", "é", "\x00", "xmlns", "<a>", "</a>", "\n", "<?xml version=\"1.0\"?>"}
	for range 50000 {
		var b strings.Builder
		for range w.Intn(12) {
			b.WriteString(signs[w.Intn(len(signs))])
		}
		s := b.String()
		n, p, e := markup.Parse(s)
		m, q, f := markup.Parse(s)
		if p != q || e != f || !reflect.DeepEqual(n, m) {
			t.Fatalf("Parse(%q): %v at %v, then %v at %v", s, e, p, f, q)
		}
		if e != api.OK && !reflect.DeepEqual(n, api.Node{}) || e == api.OK && (p != api.Pos{} || n.Local == "") {
			t.Fatalf("Parse(%q): %+v, %v at %v", s, n, e, p)
		}
	}
}
