package events_test

import (
	"fmt"
	"math/rand"
	"slices"
	"strings"
	"testing"

	"espalier/api"
)

const bad = 99 // no kind of node, and none of events

func el(name string, kids ...api.Tree) api.Tree {
	return api.Tree{Kind: api.Element, Name: name, Kids: kids}
}

func with(x api.Tree, attrs ...api.Attr) api.Tree {
	x.Attrs = attrs
	return x
}

func at(name, value string) api.Attr { return api.Attr{Name: name, Value: value} }

func text(s string) api.Tree { return api.Tree{Kind: api.Text, Text: s} }

func forest(l ...api.Tree) []api.Tree { return l }

func long(n int) string { return strings.Repeat("x", n) }

// chain is so many nodes, one in the other; the innermost is inner.
func chain(n int, inner api.Tree) api.Tree {
	for range n - 1 {
		inner = el("c", inner)
	}
	return inner
}

// attrs is so many attributes, their names rising.
func attrs(n int) []api.Attr {
	var l []api.Attr
	for i := range n {
		l = append(l, at("a"+string(rune('0'+i/10))+string(rune('0'+i%10)), "v"))
	}
	return l
}

func start(name string, attrs ...api.Attr) api.Event {
	return api.Event{Kind: api.Start, Name: name, Attrs: attrs}
}

func words(s string) api.Event { return api.Event{Kind: api.Words, Text: s} }

func end(name string) api.Event { return api.Event{Kind: api.End, Name: name} }

func list(l ...api.Event) []api.Event { return l }

// times is a list so many times.
func times(n int, l ...api.Event) []api.Event { return slices.Repeat(l, n) }

func join(l ...[]api.Event) []api.Event { return slices.Concat(l...) }

// alike holds two events against each other, all fields; nil and empty lists are alike.
func alike(a, b api.Event) bool {
	return a.Kind == b.Kind && a.Name == b.Name && a.Text == b.Text && slices.Equal(a.Attrs, b.Attrs)
}

// alikeTrees does so with forests.
func alikeTrees(a, b []api.Tree) bool {
	return slices.EqualFunc(a, b, func(a, b api.Tree) bool {
		return a.Kind == b.Kind && a.Name == b.Name && slices.Equal(a.Attrs, b.Attrs) && a.Text == b.Text && alikeTrees(a.Kids, b.Kids)
	})
}

// copyOf is a forest in memory of its own.
func copyOf(l []api.Tree) []api.Tree {
	l = slices.Clone(l)
	for i := range l {
		l[i].Attrs = slices.Clone(l[i].Attrs)
		l[i].Kids = copyOf(l[i].Kids)
	}
	return l
}

// given is a source that is handed in: it tells a list and then an error, and counts how often it is asked.
type given struct {
	list  []api.Event
	why   api.Errno
	asked int
	late  int // how often it was asked when it had told its error
}

func (g *given) tell() (api.Event, api.Errno) {
	g.asked++
	if g.asked <= len(g.list) {
		return g.list[g.asked-1], api.OK
	}
	if g.asked > len(g.list)+1 {
		g.late++
	}
	// What stands beside an error is nothing, whatever it is.
	return start("junk", at("j", "k")), g.why
}

// from is a source of these events; then it is done.
func from(l ...api.Event) api.Source { return (&given{list: l, why: api.ErrDone}).tell }

// to is a source of these events, and then of an error.
func to(why api.Errno, l ...api.Event) api.Source { return (&given{list: l, why: why}).tell }

func panics() (api.Event, api.Errno) { panic("no more") }

// all is what a source tells, and how it ends; it must stay at its end, and tell nothing beside it.
func all(t *testing.T, s api.Source) ([]api.Event, api.Errno) {
	t.Helper()
	var l []api.Event
	e, why := s()
	for ; why == api.OK; e, why = s() {
		l = append(l, e)
		if len(l) > 1<<20 {
			t.Fatal("it does not end")
		}
	}
	for range 3 {
		if !alike(e, api.Event{}) {
			t.Fatalf("beside %d: %v", why, e)
		}
		again := why
		if e, again = s(); again != why {
			t.Fatalf("%d, and then %d", why, again)
		}
	}
	return l, why
}

// tells: a source tells just these events, and ends so.
func tells(t *testing.T, what string, s api.Source, why api.Errno, want ...api.Event) {
	t.Helper()
	got, e := all(t, s)
	if e != why || !slices.EqualFunc(got, want, alike) {
		t.Errorf("%s: %d events: %s, %d; want %d: %s, %d", brief(what), len(got), show(got), e, len(want), show(want), why)
	}
}

// show is anything as a text that can be looked at.
func show(x any) string { return brief(fmt.Sprint(x)) }

// brief is a text, if it is long only its ends.
func brief(s string) string {
	if len(s) > 200 {
		return s[:100] + " .. " + s[len(s)-100:]
	}
	return s
}

// maker makes forests and events, the same ones in each run.
type maker struct{ *rand.Rand }

func newMaker(seed int64) maker { return maker{rand.New(rand.NewSource(seed))} }

func (m maker) one(l ...string) string { return l[m.Intn(len(l))] }

func (m maker) text() string {
	return m.one("", "", "x", "y z", "é", "\U0001f333", "&", "<", ">", "\"", "'", "\r", "\n\t", "]]>", "-->", "&amp;", "<a/>")
}

func (m maker) attrs() []api.Attr {
	var l []api.Attr
	for _, n := range []string{"A", "_x", "a", "aa", "b"} {
		if m.Intn(4) == 0 {
			l = append(l, at(n, m.text()))
		}
	}
	return l
}

// forest is a forest that can be, with texts that are empty, or stand behind each other, and with what plays no part.
func (m maker) forest(depth int) []api.Tree {
	var l []api.Tree
	for range m.Intn(5) {
		x := text(m.text())
		if m.Intn(5) < 3 {
			x = with(el(m.one("a", "b", "c", "a-b.c9")), m.attrs()...)
			if depth > 1 {
				x.Kids = m.forest(depth - 1)
			}
		}
		switch {
		case m.Intn(8) > 0:
		case x.Kind == api.Element:
			x.Text = "\x00"
		default:
			x.Name, x.Attrs, x.Kids = "1", attrs(api.MaxAttrs+1), forest(el("k"), api.Tree{Kind: bad})
		}
		l = append(l, x)
	}
	return l
}

// event is any event, mostly one that can be somewhere; fields that its kind does not name hold something, too.
func (m maker) event() api.Event {
	var e api.Event
	switch n := m.Intn(40); {
	case n < 14:
		e = start(m.one("a", "b", "c"), m.attrs()...)
	case n < 24:
		e = words(m.text())
	case n < 38:
		e = end(m.one("a", "b", "c"))
	default:
		e.Kind = m.Intn(7) - 2
	}
	switch m.Intn(40) {
	case 0:
		e.Name = m.one("", "1", long(api.MaxName+1))
	case 1:
		e.Attrs = []api.Attr{at("b", ""), at("a", "")}
	case 2:
		e.Text = "\x00"
	}
	return e
}

// list is events as they come, or as a forest tells them, with one now and then put in, taken out or changed.
func (m maker) list() []api.Event {
	var l []api.Event
	if m.Intn(3) == 0 {
		for range m.Intn(12) {
			l = append(l, m.event())
		}
		return l
	}
	l = plain(m.forest(4))
	for range max(0, m.Intn(5)-2) {
		i := m.Intn(len(l) + 1)
		switch {
		case i == len(l) || m.Intn(3) == 0:
			l = slices.Insert(l, i, m.event())
		case m.Intn(2) == 0:
			l = slices.Delete(l, i, i+1)
		default:
			l[i] = m.event()
		}
	}
	return l
}

// plain is the events of a forest.
func plain(f []api.Tree) []api.Event {
	var l []api.Event
	for _, x := range f {
		switch x.Kind {
		case api.Element:
			l = append(append(append(l, start(x.Name, x.Attrs...)), plain(x.Kids)...), end(x.Name))
		case api.Text:
			l = append(l, words(x.Text))
		default:
			l = append(l, api.Event{Kind: x.Kind})
		}
	}
	return l
}

// ending is an answer with which a source may end.
func (m maker) ending() api.Errno {
	return []api.Errno{api.ErrDone, api.ErrDone, api.ErrDone, api.ErrArg, api.ErrEvent, -7, 12345}[m.Intn(7)]
}
