package markup

import (
	"cmp"
	"slices"
	"strings"

	"espalier/api"
	"espalier/chars"
)

// What stands around remarks and raw text, and what an end begins with.
const (
	remarkFrom, remarkTo = "<!--", "-->"
	askFrom, askTo       = "<?", "?>"
	rawFrom, rawTo       = "<![CDATA[", "]]>"
	endFrom              = "</"
)

// longestRef is how many bytes a reference has at most: &#1114111; has as many.
const longestRef = len("&#1114111;")

// reader goes through a text from the left, and gives up by a panic with the first fault.
type reader struct {
	text  string
	at    int // what is ahead of it is read
	nodes int // how many have begun
	open  int // how many elements are around
}

// fault is what is wrong first.
type fault struct {
	at  int
	why api.Errno
}

func (r *reader) fail(at int, why api.Errno) { panic(fault{at, why}) }

// forest reads all.
func (r *reader) forest() []api.Tree {
	list := r.siblings()
	if r.at < len(r.text) {
		// An end where nothing is open: of no name it would be the right one.
		r.end("")
	}
	return list
}

// siblings reads texts and elements up to an end, or to the end of all.
func (r *reader) siblings() []api.Tree {
	var list []api.Tree
	for {
		if s := r.words(); s != "" {
			list = append(list, api.Tree{Kind: api.Text, Text: s})
		}
		if r.at == len(r.text) || r.sees(endFrom) {
			return list
		}
		list = append(list, r.element())
	}
}

// words reads a text, with the raw text in it and the remarks, up to a tag or to the end of all.
func (r *reader) words() string {
	var out []byte
	for r.at < len(r.text) {
		switch {
		case r.text[r.at] != '<':
			at := r.at
			out = r.put(out, r.letter(), at)
		case r.sees(remarkFrom):
			r.skip(remarkFrom, remarkTo)
		case r.sees(askFrom):
			r.skip(askFrom, askTo)
		case r.sees(rawFrom):
			out = r.raw(out)
		default:
			r.tag()
			return string(out)
		}
	}
	return string(out)
}

// sees tells whether this stands here.
func (r *reader) sees(s string) bool { return strings.HasPrefix(r.text[r.at:], s) }

// breaks tells whether all that is left is a beginning of this.
func (r *reader) breaks(s string) bool { return strings.HasPrefix(s, r.text[r.at:]) }

// skip reads what begins and ends so: it is what stands between.
func (r *reader) skip(from, to string) string {
	inner, _, ends := strings.Cut(r.text[r.at+len(from):], to)
	if !ends {
		r.fail(r.at, api.ErrShort)
	}
	r.at += len(from) + len(inner) + len(to)
	return inner
}

// raw reads raw text. It is put into the text byte by byte, as its bytes, not its characters, are what may be one too many.
func (r *reader) raw(out []byte) []byte {
	at := r.at + len(rawFrom)
	for s := r.skip(rawFrom, rawTo); s != ""; {
		_, n, e := chars.First(s)
		if e != api.OK {
			r.fail(at, e)
		}
		for i := range n {
			out = r.put(out, s[i:i+1], at+i)
		}
		s = s[n:]
		at += n
	}
	return out
}

// put puts what stood at a place behind a text of the forest, whose node begins with its first byte.
func (r *reader) put(out []byte, s string, at int) []byte {
	if len(out) == 0 {
		r.begin(at)
	}
	return r.grow(out, s, at)
}

// grow puts what stood at a place behind a text, or a value, that may become only so long.
func (r *reader) grow(out []byte, s string, at int) []byte {
	if len(out)+len(s) > api.MaxText {
		r.fail(at, api.ErrLong)
	}
	return append(out, s...)
}

// begin counts a node that begins at a place.
func (r *reader) begin(at int) {
	if r.nodes == api.MaxNodes || r.open == api.MaxDepth {
		r.fail(at, api.ErrLong)
	}
	r.nodes++
}

// letter reads a character, or a reference for one: its bytes.
func (r *reader) letter() string {
	rest := r.text[r.at:]
	if rest[0] == '&' {
		return r.reference(rest)
	}
	_, n, e := chars.First(rest)
	if e != api.OK {
		r.fail(r.at, e)
	}
	r.at += n
	return rest[:n]
}

// reference reads the reference with which the rest begins. Unescape gets no more than could be one, so that what it tells is of it alone.
func (r *reader) reference(rest string) string {
	ref := rest[:min(len(rest), longestRef)]
	if i := strings.IndexByte(ref, ';'); i >= 0 {
		ref = ref[:i+1]
	}
	s, _, e := chars.Unescape(ref)
	if e != api.OK {
		r.fail(r.at, e)
	}
	r.at += len(ref)
	return s
}

// tag looks at a < that begins neither a remark nor raw text: it must be that of an element or of an end.
func (r *reader) tag() {
	switch {
	case r.breaks(remarkFrom), r.breaks(rawFrom):
		r.fail(r.at, api.ErrShort)
	case !r.sees(endFrom) && !firstOfName(r.text[r.at+1]):
		r.fail(r.at, api.ErrForm)
	}
}

// element reads an element.
func (r *reader) element() api.Tree {
	r.begin(r.at)
	r.at++
	x := api.Tree{Kind: api.Element, Name: r.name()}
	x.Attrs = r.attrs()
	if r.need() == '/' {
		r.at++
		r.expect('>')
		return x
	}
	r.expect('>')
	r.open++
	x.Kids = r.siblings()
	r.open--
	r.end(x.Name)
	return x
}

// end reads the end of the element of a name, the innermost one that is open.
func (r *reader) end(open string) {
	from := r.at
	r.expect('<')
	r.expect('/')
	if r.name() != open {
		r.fail(from, api.ErrClose)
	}
	r.blanks()
	r.expect('>')
}

// attrs reads the attributes of an element, up to the / or > behind them.
func (r *reader) attrs() []api.Attr {
	var list []api.Attr
	for {
		apart := r.blanks()
		if b := r.need(); b == '/' || b == '>' {
			slices.SortFunc(list, func(a, b api.Attr) int { return cmp.Compare(a.Name, b.Name) })
			return list
		}
		if !apart {
			r.fail(r.at, api.ErrForm)
		}
		list = append(list, r.attr(list))
	}
}

// attr reads an attribute, ahead of which these stand in its element.
func (r *reader) attr(ahead []api.Attr) api.Attr {
	from := r.at
	a := api.Attr{Name: r.name()}
	if len(ahead) == api.MaxAttrs {
		r.fail(from, api.ErrLong)
	}
	if slices.ContainsFunc(ahead, func(x api.Attr) bool { return x.Name == a.Name }) {
		r.fail(from, api.ErrAttr)
	}
	r.expect('=')
	a.Value = r.value()
	return a
}

// value reads an attribute's value and the quotes around it.
func (r *reader) value() string {
	quote := r.need()
	if quote != '"' && quote != '\'' {
		r.fail(r.at, api.ErrForm)
	}
	r.at++
	var out []byte
	for b := r.need(); b != quote; b = r.need() {
		if b == '<' {
			r.fail(r.at, api.ErrForm)
		}
		at := r.at
		out = r.grow(out, r.letter(), at)
	}
	r.at++
	return string(out)
}

// name reads what must be a name, as far as bytes of names go. It is copied, so that it does not keep the whole text alive.
func (r *reader) name() string {
	from := r.at
	if !firstOfName(r.need()) {
		r.fail(from, api.ErrForm)
	}
	for r.at < len(r.text) && inName(r.text[r.at]) {
		r.at++
	}
	name := strings.Clone(r.text[from:r.at])
	if !chars.Name(name) {
		r.fail(from, api.ErrName)
	}
	return name
}

// firstOfName tells whether a name can begin with a byte.
func firstOfName(b byte) bool { return chars.Name(string([]byte{b})) }

// inName tells whether a byte can be in names: behind a first one.
func inName(b byte) bool { return chars.Name(string([]byte{'_', b})) }

// blanks reads blanks; whether there were any.
func (r *reader) blanks() bool {
	from := r.at
	for r.at < len(r.text) && chars.Blank(r.text[r.at:r.at+1]) {
		r.at++
	}
	return r.at > from
}

// need is the byte that is next, where the text must not end.
func (r *reader) need() byte {
	if r.at == len(r.text) {
		r.fail(r.at, api.ErrShort)
	}
	return r.text[r.at]
}

// expect reads this byte.
func (r *reader) expect(b byte) {
	if r.need() != b {
		r.fail(r.at, api.ErrForm)
	}
	r.at++
}
