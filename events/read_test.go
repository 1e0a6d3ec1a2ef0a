package events_test

import (
	"slices"
	"strings"
	"testing"

	"espalier/api"
	"espalier/events"
	"espalier/markup"
)

// P6.1: a text that can be read.
func TestReadWhole(t *testing.T) {
	for _, x := range []struct {
		s    string
		want []api.Event
	}{
		{"", nil},
		{"x", list(words("x"))},
		{"<a>x<b/></a>", list(start("a"), words("x"), start("b"), end("b"), end("a"))},
		{"<a/>", list(start("a"), end("a"))},
		{"<a></a>", list(start("a"), end("a"))},
		{"<a/><b></b>x", list(start("a"), end("a"), start("b"), end("b"), words("x"))},
		{"<a \t\r\n></a \t\r\n>", list(start("a"), end("a"))},
		{"<a />", list(start("a"), end("a"))},
		{"<a b='1'/>", list(start("a", at("b", "1")), end("a"))},
		{"<a b='/'>x</a>", list(start("a", at("b", "/")), words("x"), end("a"))},
		{"<a b='/>'/>", list(start("a", at("b", "/>")), end("a"))},
		{"<a b=''/>", list(start("a", at("b", "")), end("a"))},
		{"<a b='\"' c=\"'\"/>", list(start("a", at("b", "\""), at("c", "'")), end("a"))},
		{"<a\tb='1'\r\n c=\"2\" >x</a>", list(start("a", at("b", "1"), at("c", "2")), words("x"), end("a"))},
		{"<a c='1' B='2' _='3' b='4' aa='5' a='6'></a>", list(start("a", at("B", "2"), at("_", "3"), at("a", "6"), at("aa", "5"), at("b", "4"), at("c", "1")), end("a"))},
		{"<a b='x=\"y\" c=' c='&lt;&amp;&#65;&#x42;=>/'></a>", list(start("a", at("b", "x=\"y\" c="), at("c", "<&AB=>/")), end("a"))},
		{"a&lt;b&amp;&#65;&#x42;&gt;c>", list(words("a<b&AB>c>"))},
		{"<!-- x -->", nil},
		{"a<!-- <b> -->c<?d?>e", list(words("ace"))},
		{"<a><!-- </a> --></a>", list(start("a"), end("a"))},
		{"<a><?b?><!--c--></a>", list(start("a"), end("a"))},
		{"<!--><a/>-->y", list(words("y"))},
		{"<?>?>y", list(words("y"))},
		{"<![CDATA[]]>", nil},
		{"a<![CDATA[<b>&amp;</b><!--]]>c", list(words("a<b>&amp;</b><!--c"))},
		{"<![CDATA[]]]]>", list(words("]]"))},
		{"<a><![CDATA[]]></a>", list(start("a"), end("a"))},
		{"é\U0001f333<_-.9/>\t\r\n ", list(words("é\U0001f333"), start("_-.9"), end("_-.9"), words("\t\r\n "))},
	} {
		tells(t, x.s, events.Read(x.s), api.ErrDone, x.want...)
	}
}

// P6.1: a text in which something is wrong: what is whole ahead of it, and its error.
func TestReadWrong(t *testing.T) {
	for _, x := range []struct {
		s    string
		why  api.Errno
		want []api.Event
	}{
		{"<a>", api.ErrShort, list(start("a"))},
		{"<a>x", api.ErrShort, list(start("a"), words("x"))},
		{"<a>x<!-- y -->", api.ErrShort, list(start("a"), words("x"))},
		{"<a>x<![CDATA[y]]>", api.ErrShort, list(start("a"), words("xy"))},
		{"<a><!-- y -->", api.ErrShort, list(start("a"))},
		{"<a/><b><c/>", api.ErrShort, list(start("a"), end("a"), start("b"), start("c"), end("c"))},
		// A text is whole where a < with a / or a name's first byte comes,
		{"x</a>", api.ErrClose, list(words("x"))},
		{"<a>x</b>", api.ErrClose, list(start("a"), words("x"))},
		{"<a>x</", api.ErrShort, list(start("a"), words("x"))},
		{"<a>x</1>", api.ErrForm, list(start("a"), words("x"))},
		{"<a>x</a", api.ErrShort, list(start("a"), words("x"))},
		{"<a>x</a b>", api.ErrForm, list(start("a"), words("x"))},
		{"x<b", api.ErrShort, list(words("x"))},
		{"x<_", api.ErrShort, list(words("x"))},
		{"x<b/", api.ErrShort, list(words("x"))},
		{"x<b/ >", api.ErrForm, list(words("x"))},
		{"x<b =''>", api.ErrForm, list(words("x"))},
		{"x<b c", api.ErrShort, list(words("x"))},
		{"x<b c='>", api.ErrShort, list(words("x"))},
		{"x<b c='>\"/><d>", api.ErrForm, list(words("x"))},
		{"x<b c='1'd='2'/>", api.ErrForm, list(words("x"))},
		{"x<b c='1' c='2'/>", api.ErrAttr, list(words("x"))},
		{"x<b c='&;'/>", api.ErrRef, list(words("x"))},
		{"x<b c='\x00'/>", api.ErrText, list(words("x"))},
		{"x<!-- y -->z<" + long(api.MaxName+1) + ">", api.ErrName, list(words("xz"))},
		// and not where another thing does.
		{"x<", api.ErrShort, nil},
		{"x<!", api.ErrShort, nil},
		{"x<!-", api.ErrShort, nil},
		{"x<!-- y", api.ErrShort, nil},
		{"x<!-- y --", api.ErrShort, nil},
		{"x<?y", api.ErrShort, nil},
		{"x<![CDA", api.ErrShort, nil},
		{"x<![CDATA[y", api.ErrShort, nil},
		{"x<![CDATA[<a>\x00]]>", api.ErrText, nil},
		{"x<![CDATA[y]]><", api.ErrShort, nil},
		{"x<!-- y --><1>", api.ErrForm, nil},
		{"x<1>", api.ErrForm, nil},
		{"x< a>", api.ErrForm, nil},
		{"x<!b>", api.ErrForm, nil},
		{"x&", api.ErrShort, nil},
		{"x&am", api.ErrShort, nil},
		{"x&b;<a/>", api.ErrRef, nil},
		{"x\x00<a/>", api.ErrText, nil},
		{"x\xc3<a/>", api.ErrText, nil},
		{"<a>x&", api.ErrShort, list(start("a"))},
		{"<a/>x<", api.ErrShort, list(start("a"), end("a"))},
		{"<a b='1'>x<c>y</c>z<d/>\x00", api.ErrText, list(start("a", at("b", "1")), words("x"), start("c"), words("y"), end("c"), words("z"), start("d"), end("d"))},
		{"\x00", api.ErrText, nil},
		{"<1", api.ErrForm, nil},
		{"</a>", api.ErrClose, nil},
	} {
		if _, _, why := markup.Parse(x.s); why != x.why {
			t.Fatalf("%q: Parse tells %d", x.s, why)
		}
		tells(t, x.s, events.Read(x.s), x.why, x.want...)
	}
}

// P6.1: where a limit is passed.
func TestReadLimits(t *testing.T) {
	deep := strings.Repeat("<c>", api.MaxDepth)
	starts := times(api.MaxDepth, start("c"))
	full := strings.Repeat("<c/>", api.MaxNodes)
	pairs := times(api.MaxNodes, start("c"), end("c"))
	most := long(api.MaxText)
	refs := strings.Repeat("&#0000065;", api.MaxText)
	for _, x := range []struct {
		s    string
		why  api.Errno
		want []api.Event
	}{
		{deep, api.ErrShort, starts},
		{deep + "<d/>", api.ErrLong, starts},
		{deep + "x", api.ErrLong, starts},
		{deep + "<![CDATA[<a>]]>", api.ErrLong, starts},
		{full, api.ErrDone, pairs},
		{full + "<d/>", api.ErrLong, pairs},
		{full + "x", api.ErrLong, pairs},
		{full + "<![CDATA[</a>]]>", api.ErrLong, pairs},
		{full[4:] + "x<d/>", api.ErrLong, join(pairs[2:], list(words("x")))},
		{most, api.ErrDone, list(words(most))},
		{most + "x<d/>", api.ErrLong, nil},
		{most + "<d>", api.ErrShort, list(words(most), start("d"))},
		{most + "<!-- x --><![CDATA[x]]><d/>", api.ErrLong, nil},
		{most + "<![CDATA[<a/>]]><d/>", api.ErrLong, nil},
		{most + "<![CDATA[]]><d/>", api.ErrDone, list(words(most), start("d"), end("d"))},
		{refs, api.ErrDone, list(words(strings.Repeat("A", api.MaxText)))},
		{"<a b='" + refs + "'>", api.ErrShort, list(start("a", at("b", strings.Repeat("A", api.MaxText))))},
		{"x<a b='" + most + "x'>", api.ErrLong, list(words("x"))},
		{long(api.MaxBytes + 1), api.ErrLong, nil},
		{"<a/>" + strings.Repeat("<!---->", api.MaxBytes/7), api.ErrLong, nil},
	} {
		tells(t, x.s, events.Read(x.s), x.why, x.want...)
	}
}

// P6.1: a tag that is all that a text can have, and is left open.
func TestReadOneTag(t *testing.T) {
	s, want := "<a", start("a")
	for i := range 15 {
		name := attrs(15)[i].Name
		s += " " + name + "='" + long(api.MaxText) + "'"
		want.Attrs = append(want.Attrs, at(name, long(api.MaxText)))
	}
	rest := api.MaxBytes - len(s) - len(" b=''>")
	s += " b='" + long(rest) + "'>"
	want.Attrs = append(want.Attrs, at("b", long(rest)))
	if len(s) != api.MaxBytes || rest > api.MaxText {
		t.Fatal(len(s), rest)
	}
	tells(t, s, events.Read(s), api.ErrShort, want)
	tells(t, s, events.Read(s+" "), api.ErrLong)
}

// P6.1: of any text, what comes of as much of it as can be completed.
func TestReadAny(t *testing.T) {
	m := newMaker(61)
	for range 30000 {
		s := ""
		for range m.Intn(14) {
			s += m.one("<a>", "</a>", "<a>", "</a>", "<b c='1'>", "</b>", "<b/>", "<a d='>' c=\"'\"/>", "x", "y", "&amp;", "é", "<!-- x -->", "<![CDATA[z]]>", "<![CDATA[<a>]]>", "<?y?>", m.part())
		}
		want, why := wanted(t, s)
		tells(t, s, events.Read(s), why, want...)
	}
}

// part is something that may break a text, or be a piece of it.
func (m maker) part() string {
	return m.one("&", "<", ">", "/", "'", "\"", "=", " ", "<!--", "-->", "<!", "<![CDATA[", "]]>", "<?", "?>", "\x00", "\xc3", "<a", "</", "a", "</a", "c='1'", "<1>")
}

// wanted is the events that are whole ahead of what is wrong in a text, and its error. Found by Parse alone: up to the last place ahead of the fault where a remark could stand all can be read, if what is open there is closed.
func wanted(t *testing.T, s string) ([]api.Event, api.Errno) {
	f, place, why := markup.Parse(s)
	if why == api.OK {
		return plain(f), api.ErrDone
	}
	for !canStop(s[:place]) {
		place--
	}
	whole, open := s[:place], 0
	for !canRead(whole) {
		for _, close := range []string{"</a>", "</b>"} {
			if _, _, e := markup.Parse(whole + close); e != api.ErrClose {
				whole += close
				open++
				break
			}
		}
	}
	f, _, _ = markup.Parse(whole)
	l := plain(f)
	l = l[:len(l)-open]
	if n := len(l); n > 0 && l[n-1].Kind == api.Words && !endsText(s[place:]) {
		l = l[:n-1]
	}
	return l, why
}

func canRead(s string) bool {
	_, _, e := markup.Parse(s)
	return e == api.OK
}

// canStop tells whether s could go on with a remark, and breaks off at nothing but elements that are open.
func canStop(s string) bool {
	s += "<?-?>"
	_, place, e := markup.Parse(s)
	return e == api.OK || e == api.ErrShort && place == len(s)
}

// endsText tells whether a text is whole ahead of this.
func endsText(rest string) bool {
	return rest == "" || len(rest) > 1 && rest[0] == '<' && strings.IndexByte("/_abcdefghijklmnopqrstuvwxyzABCDEFGHIJKLMNOPQRSTUVWXYZ", rest[1]) >= 0
}

// P6.1: which bytes a name can begin with, so that the text ahead is whole.
func TestReadNameBytes(t *testing.T) {
	for b := range 256 {
		s := "x<" + string([]byte{byte(b)}) + "\x00"
		l, _ := all(t, events.Read(s))
		if (len(l) == 1) != endsText(s[1:]) {
			t.Errorf("%q: %v", s, l)
		}
	}
}

// P6.1: the events of a forest, whatever it holds.
func TestOf(t *testing.T) {
	for _, x := range []struct {
		f    []api.Tree
		want []api.Event
	}{
		{nil, nil},
		{forest(text("x")), list(words("x"))},
		{forest(text(""), text("")), list(words(""), words(""))},
		{forest(el("a", text("x"), el("b")), el("c")), list(start("a"), words("x"), start("b"), end("b"), end("a"), start("c"), end("c"))},
		{forest(with(el("a"), at("b", "1"), at("c", "2"))), list(start("a", at("b", "1"), at("c", "2")), end("a"))},
		// What can't be is told all the same.
		{forest(with(el("1 <"), at("b", "\x00"), at("", ""), at("b", "")), text("\xff")), list(start("1 <", at("b", "\x00"), at("", ""), at("b", "")), end("1 <"), words("\xff"))},
		{forest(text(long(api.MaxText + 1))), list(words(long(api.MaxText + 1)))},
		{forest(with(el(""), attrs(40)...)), list(start("", attrs(40)...), end(""))},
		// Of each kind nothing but what it uses.
		{forest(api.Tree{Kind: api.Element, Name: "a", Text: "x"}), list(start("a"), end("a"))},
		{forest(api.Tree{Kind: api.Text, Name: "a", Attrs: attrs(2), Text: "x", Kids: forest(el("b"))}), list(words("x"))},
		// Another kind tells itself alone.
		{forest(el("a", api.Tree{Kind: bad, Name: "a", Attrs: attrs(2), Text: "x", Kids: forest(el("b"))}, text("y"))), list(start("a"), api.Event{Kind: bad}, words("y"), end("a"))},
		{forest(api.Tree{}, api.Tree{Kind: 3, Name: "a"}, api.Tree{Kind: -1, Name: "a"}), list(api.Event{}, api.Event{Kind: 3}, api.Event{Kind: -1})},
	} {
		tells(t, "Of", events.Of(x.f), api.ErrDone, x.want...)
	}
	n := 1 << 16
	tells(t, "deep", events.Of(forest(chain(n+1, text("x")))), api.ErrDone, join(times(n, start("c")), list(words("x")), times(n, end("c")))...)
	tells(t, "many", events.Of(slices.Repeat(forest(el("c", text("x"))), n)), api.ErrDone, times(n, start("c"), words("x"), end("c"))...)
}

// P6.1: what is told was handed in; what is done to it later plays no part.
func TestOfKeepsNothing(t *testing.T) {
	m := newMaker(62)
	for range 300 {
		f := m.forest(4)
		was := copyOf(f)
		s := events.Of(f)
		var got []api.Event
		for {
			spoil(f)
			e, why := s()
			if why != api.OK {
				break
			}
			got = append(got, api.Event{Kind: e.Kind, Name: e.Name, Attrs: slices.Clone(e.Attrs), Text: e.Text})
			ruin(e.Attrs)
		}
		if !slices.EqualFunc(got, plain(was), alike) {
			t.Fatalf("%v: %v", was, got)
		}
	}
	f := forest(with(el("a", text("x")), at("b", "c")))
	was := copyOf(f)
	s := events.Of(f)
	for e, why := s(); why == api.OK; e, why = s() {
		ruin(e.Attrs)
	}
	if !alikeTrees(f, was) {
		t.Error(f)
	}
}

// spoil changes all of a forest.
func spoil(f []api.Tree) {
	for i := range f {
		spoil(f[i].Kids)
		ruin(f[i].Attrs)
		f[i].Kind, f[i].Name, f[i].Text = bad, "spoilt", "spoilt"
	}
}

// ruin writes into all of a list, its spare room too.
func ruin(l []api.Attr) {
	l = l[:cap(l)]
	for i := range l {
		l[i] = at("ruined", "ruined")
	}
}
