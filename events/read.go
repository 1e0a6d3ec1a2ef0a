package events

import (
	"cmp"
	"slices"
	"strings"

	"espalier/api"
	"espalier/chars"
	"espalier/markup"
)

// What stands around remarks and raw text in markup; what blanks there are.
const (
	remarkFrom, remarkTo = "<!--", "-->"
	askFrom, askTo       = "<?", "?>"
	rawFrom, rawTo       = "<![CDATA[", "]]>"
	blanks               = " \t\r\n"
)

// Read tells the events of markup, up to the first fault in it.
func Read(text string) api.Source {
	_, to, why := markup.Parse(text)
	if why == api.OK {
		to, why = len(text), api.ErrDone
	}
	r := reader{text: text, to: to, why: why}
	return lasting(r.next)
}

// reader goes through markup up to a place. All that stands ahead of that is right, so it takes it as it comes, and looks only for what is not whole there.
type reader struct {
	text string
	at   int       // what is ahead of it is read
	to   int       // the fault's place, or the end
	why  api.Errno // what is told there
	end  api.Event // that of an element without children, whose tag was its beginning and its end
}

func (r *reader) next() (api.Event, api.Errno) {
	if e := r.end; e.Kind == api.End {
		r.end = api.Event{}
		return e, api.OK
	}
	if s := r.words(); s != "" {
		return api.Event{Kind: api.Words, Text: s}, api.OK
	}
	tag := r.tag()
	if tag == "" {
		return api.Event{}, r.why
	}
	if rest, is := strings.CutPrefix(tag, "</"); is {
		return api.Event{Kind: api.End, Name: nameOf(rest)}, api.OK
	}
	name := nameOf(tag[1:])
	if strings.HasSuffix(tag, "/>") {
		r.end = api.Event{Kind: api.End, Name: name}
	}
	return api.Event{Kind: api.Start, Name: name, Attrs: attrsOf(tag[1+len(name):])}, api.OK
}

// words reads a text, with the raw text in it and the remarks, up to a tag or to the end; if it is not whole there, none.
func (r *reader) words() string {
	var out strings.Builder
	for r.at < r.to && !r.atTag() {
		rest := r.text[r.at:r.to]
		switch {
		case strings.HasPrefix(rest, remarkFrom):
			r.skip(remarkFrom, remarkTo)
		case strings.HasPrefix(rest, askFrom):
			r.skip(askFrom, askTo)
		case strings.HasPrefix(rest, rawFrom):
			inner, whole := r.skip(rawFrom, rawTo)
			if !whole {
				// Said here, as a < in raw text looks like a tag's.
				return ""
			}
			out.WriteString(inner)
		default:
			out.WriteString(r.plain())
		}
	}
	if r.at < len(r.text) && !r.atTag() {
		return ""
	}
	return out.String()
}

// atTag tells whether a tag begins here.
func (r *reader) atTag() bool {
	rest, is := strings.CutPrefix(r.text[r.at:], "<")
	return is && rest != "" && (rest[0] == '/' || chars.Name(rest[:1]))
}

// skip reads what begins and ends so: what stands between, and whether it is whole; if not, the fault is in it, and nothing is left to read.
func (r *reader) skip(from, to string) (string, bool) {
	inner, _, whole := strings.Cut(r.text[r.at+len(from):r.to], to)
	if !whole {
		r.at = r.to
		return "", false
	}
	r.at += len(from) + len(inner) + len(to)
	return inner, true
}

// plain reads characters and references.
func (r *reader) plain() string {
	rest := r.text[r.at:r.to]
	if n := strings.IndexByte(rest, '<'); n > 0 {
		rest = rest[:n]
	}
	r.at += len(rest)
	s, _, _ := chars.Unescape(rest)
	return s
}

// tag reads a tag; none, if it is not whole.
func (r *reader) tag() string {
	rest := r.text[r.at:r.to]
	tag := rest[:tagLen(rest)]
	r.at += len(tag)
	return tag
}

// tagLen is how many bytes the tag has with which s begins; 0, if it does not end: a > within quotes is none of its own.
func tagLen(s string) int {
	quote := byte(0)
	for i, b := range []byte(s) {
		switch {
		case quote != 0:
			if b == quote {
				quote = 0
			}
		case b == '"', b == '\'':
			quote = b
		case b == '>':
			return i + 1
		}
	}
	return 0
}

// nameOf is the name with which the rest of a tag begins. It is copied, so that it does not keep the whole text alive.
func nameOf(rest string) string {
	return strings.Clone(rest[:strings.IndexAny(rest, blanks+"/>")])
}

// attrsOf reads what stands behind the name in the tag of an element.
func attrsOf(rest string) []api.Attr {
	var list []api.Attr
	for {
		name, behind, some := strings.Cut(strings.TrimLeft(rest, blanks), "=")
		if !some {
			break
		}
		quote := behind[:1]
		value, left, _ := strings.Cut(behind[1:], quote)
		value, _, _ = chars.Unescape(value)
		list = append(list, api.Attr{Name: strings.Clone(name), Value: value})
		rest = left
	}
	slices.SortFunc(list, func(a, b api.Attr) int { return cmp.Compare(a.Name, b.Name) })
	return list
}
