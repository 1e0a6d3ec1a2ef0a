package markup_test

import (
	"regexp"
	"slices"
	"strconv"
	"strings"
	"unicode/utf8"

	"espalier/api"
)

// The chapter's words once more, by regular expressions and from event to event instead of element by element: what Parse, Print and Normal must answer.

var (
	nameRun   = regexp.MustCompile(`^[A-Za-z0-9_.-]+`)
	nameFirst = regexp.MustCompile(`^[A-Za-z_]`)
	aName     = regexp.MustCompile(`^[A-Za-z_][A-Za-z0-9_.-]{0,31}$`)
	blankRun  = regexp.MustCompile("^[\t\n\r ]*")
	remark    = regexp.MustCompile(`(?s)^(<!--.*?-->|<\?.*?\?>)`)
	rawText   = regexp.MustCompile(`(?s)^<!\[CDATA\[(.*?)\]\]>`)
	wholeRef  = regexp.MustCompile(`^&(amp|lt|gt|quot|apos|#[0-9]{1,7}|#x[0-9A-Fa-f]{1,6});`)
	partRef   = regexp.MustCompile(`^&(|a|am|amp|l|lt|g|gt|q|qu|quo|quot|ap|apo|apos|#[0-9]{0,7}|#x[0-9A-Fa-f]{0,6})$`)
)

// wrong is the answer of a text in which something is.
type wrong struct {
	at  int
	why api.Errno
}

func canBe(r rune) bool {
	return r == 9 || r == 10 || r == 13 || 32 <= r && r <= 0xd7ff || 0xe000 <= r && r <= 0xfffd || 0x10000 <= r && r <= 0x10ffff
}

// oneChar is the character with which s begins, and how many bytes it has there.
func oneChar(s string) (string, int, api.Errno) {
	r, n := utf8.DecodeRuneInString(s)
	if r == utf8.RuneError && n == 1 || !canBe(r) {
		return "", 0, api.ErrText
	}
	return s[:n], n, api.OK
}

func oneRef(s string) (string, int, api.Errno) {
	if partRef.MatchString(s) {
		return "", 0, api.ErrShort
	}
	m := wholeRef.FindStringSubmatch(s)
	if m == nil {
		return "", 0, api.ErrRef
	}
	name := m[1]
	var r int64
	switch {
	case strings.HasPrefix(name, "#x"):
		r, _ = strconv.ParseInt(name[2:], 16, 64)
	case strings.HasPrefix(name, "#"):
		r, _ = strconv.ParseInt(name[1:], 10, 64)
	default:
		r = int64(map[string]rune{"amp": '&', "lt": '<', "gt": '>', "quot": '"', "apos": '\''}[name])
	}
	if !canBe(rune(r)) {
		return "", 0, api.ErrText
	}
	return string(rune(r)), len(m[0]), api.OK
}

func oneLetter(s string) (string, int, api.Errno) {
	if s[0] == '&' {
		return oneRef(s)
	}
	return oneChar(s)
}

// byWords reads a text as the chapter says.
type byWords struct {
	s     string
	i     int
	nodes int
	stack []*api.Tree // the elements that are open; the first is the forest
	text  []byte
}

func (w *byWords) give(at int, why api.Errno) { panic(wrong{at, why}) }

func wantParse(s string) (f []api.Tree, place int, e api.Errno) {
	if len(s) > 262144 {
		return nil, 0, api.ErrLong
	}
	defer func() {
		if x, ok := recover().(wrong); ok {
			f, place, e = nil, x.at, x.why
		}
	}()
	w := &byWords{s: s, stack: []*api.Tree{{}}}
	for w.i < len(s) {
		w.step()
	}
	w.flush()
	if len(w.stack) > 1 {
		w.give(len(s), api.ErrShort)
	}
	return w.stack[0].Kids, 0, api.OK
}

func (w *byWords) flush() {
	if len(w.text) > 0 {
		w.add(api.Tree{Kind: api.Text, Text: string(w.text)})
		w.text = nil
	}
}

func (w *byWords) add(x api.Tree) {
	top := w.stack[len(w.stack)-1]
	top.Kids = append(top.Kids, x)
}

// node: a node begins here, or there are too many, or it is too deep.
func (w *byWords) node(at int) {
	if w.nodes >= 4096 || len(w.stack)-1 >= 64 {
		w.give(at, api.ErrLong)
	}
	w.nodes++
}

func (w *byWords) say(s string, at int) {
	if len(w.text) == 0 {
		w.node(at)
	}
	w.text = append(w.text, s...)
	if len(w.text) > 16384 {
		w.give(at, api.ErrLong)
	}
}

func (w *byWords) step() {
	rest := w.s[w.i:]
	if rest[0] != '<' {
		s, n, e := oneLetter(rest)
		if e != api.OK {
			w.give(w.i, e)
		}
		w.say(s, w.i)
		w.i += n
		return
	}
	for _, x := range []string{"<", "<!", "<!-", "<!--", "<![", "<![C", "<![CD", "<![CDA", "<![CDAT", "<![CDATA", "<![CDATA["} {
		if rest == x {
			w.give(w.i, api.ErrShort)
		}
	}
	switch {
	case strings.HasPrefix(rest, "<!--"), rest[1] == '?':
		m := remark.FindString(rest)
		if m == "" {
			w.give(w.i, api.ErrShort)
		}
		w.i += len(m)
	case strings.HasPrefix(rest, "<![CDATA["):
		w.rawText(rest)
	case rest[1] == '/':
		w.end()
	case nameFirst.MatchString(rest[1:]):
		w.start()
	default:
		w.give(w.i, api.ErrForm)
	}
}

func (w *byWords) rawText(rest string) {
	m := rawText.FindStringSubmatch(rest)
	if m == nil {
		w.give(w.i, api.ErrShort)
	}
	for k := 0; k < len(m[1]); {
		s, _, e := oneChar(m[1][k:])
		if e != api.OK {
			w.give(w.i+9+k, e)
		}
		for _, b := range []byte(s) {
			w.say(string([]byte{b}), w.i+9+k)
			k++
		}
	}
	w.i += len(m[0])
}

// name is the name that stands here.
func (w *byWords) name() string {
	m := nameRun.FindString(w.s[w.i:])
	if !aName.MatchString(m) {
		w.give(w.i, api.ErrName)
	}
	w.i += len(m)
	return m
}

// must: one of these bytes stands here.
func (w *byWords) must(bytes string) byte {
	if w.i == len(w.s) {
		w.give(w.i, api.ErrShort)
	}
	b := w.s[w.i]
	if !strings.Contains(bytes, string([]byte{b})) {
		w.give(w.i, api.ErrForm)
	}
	w.i++
	return b
}

func (w *byWords) end() {
	from := w.i
	w.i += 2
	w.must("abcdefghijklmnopqrstuvwxyzABCDEFGHIJKLMNOPQRSTUVWXYZ_")
	w.i--
	name := w.name()
	if len(w.stack) == 1 || w.stack[len(w.stack)-1].Name != name {
		w.give(from, api.ErrClose)
	}
	w.i += len(blankRun.FindString(w.s[w.i:]))
	w.must(">")
	w.flush()
	x := *w.stack[len(w.stack)-1]
	w.stack = w.stack[:len(w.stack)-1]
	w.add(x)
}

func (w *byWords) start() {
	w.flush()
	w.node(w.i)
	w.i++
	x := &api.Tree{Kind: api.Element, Name: w.name()}
	for {
		blanks := len(blankRun.FindString(w.s[w.i:]))
		w.i += blanks
		if blanks > 0 && nameFirst.MatchString(w.s[w.i:]) {
			w.attr(x)
			continue
		}
		break
	}
	slices.SortFunc(x.Attrs, func(a, b api.Attr) int { return strings.Compare(a.Name, b.Name) })
	if w.must("/>") == '/' {
		w.must(">")
		w.add(*x)
		return
	}
	w.stack = append(w.stack, x)
}

func (w *byWords) attr(x *api.Tree) {
	from := w.i
	name := w.name()
	if len(x.Attrs) >= 32 {
		w.give(from, api.ErrLong)
	}
	for _, a := range x.Attrs {
		if a.Name == name {
			w.give(from, api.ErrAttr)
		}
	}
	w.must("=")
	quote := w.must(`"'`)
	value := ""
	for w.i < len(w.s) && w.s[w.i] != quote {
		if w.s[w.i] == '<' {
			w.give(w.i, api.ErrForm)
		}
		s, n, e := oneLetter(w.s[w.i:])
		if e != api.OK {
			w.give(w.i, e)
		}
		if len(value)+len(s) > 16384 {
			w.give(w.i, api.ErrLong)
		}
		value += s
		w.i += n
	}
	w.must(string([]byte{quote}))
	x.Attrs = append(x.Attrs, api.Attr{Name: name, Value: value})
}

// wantPrint is the markup, in one form, of a forest that can be, however long.
func wantPrint(f []api.Tree) string {
	plain := strings.NewReplacer("&", "&amp;", "<", "&lt;", ">", "&gt;", "\r", "&#13;")
	quoted := strings.NewReplacer("&", "&amp;", "<", "&lt;", ">", "&gt;", "\r", "&#13;", `"`, "&quot;", "\t", "&#9;", "\n", "&#10;")
	s := ""
	for _, x := range f {
		if x.Kind == api.Text {
			s += plain.Replace(x.Text)
			continue
		}
		s += "<" + x.Name
		for _, a := range x.Attrs {
			s += " " + a.Name + "=\"" + quoted.Replace(a.Value) + "\""
		}
		if within := wantPrint(x.Kids); within != "" {
			s += ">" + within + "</" + x.Name + ">"
		} else {
			s += "/>"
		}
	}
	return s
}

// wantNormal is the normal form of a forest that can be, however long its texts become.
func wantNormal(f []api.Tree) []api.Tree {
	var out []api.Tree
	for i := 0; i < len(f); i++ {
		if f[i].Kind == api.Element {
			out = append(out, api.Tree{Kind: api.Element, Name: f[i].Name, Attrs: slices.Clone(f[i].Attrs), Kids: wantNormal(f[i].Kids)})
			continue
		}
		run := f[i].Text
		for i+1 < len(f) && f[i+1].Kind == api.Text {
			i++
			run += f[i].Text
		}
		if run != "" {
			out = append(out, text(run))
		}
	}
	return out
}

// isNormal: no text is empty, and no two stand right behind each other.
func isNormal(f []api.Tree) bool {
	for i, x := range f {
		switch {
		case x.Kind == api.Element:
			if !isNormal(x.Kids) {
				return false
			}
		case x.Text == "" || i > 0 && f[i-1].Kind == api.Text:
			return false
		}
	}
	return true
}
