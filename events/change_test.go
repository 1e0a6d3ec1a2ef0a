package events_test

import (
	"slices"
	"strings"
	"testing"

	"espalier/api"
	"espalier/events"
)

// byName means events of one of these names.
func byName(names string) func(e api.Event) bool {
	return func(e api.Event) bool { return e.Name != "" && strings.Contains(names, e.Name) }
}

// named means names, one of these.
func named(names string) func(name string) bool {
	return func(name string) bool { return name != "" && strings.Contains(names, name) }
}

// P6.5: Drop leaves out what is meant, with all within.
func TestDrop(t *testing.T) {
	odd := api.Event{Kind: bad, Name: "a"}
	for _, x := range []struct {
		what    string
		means   func(e api.Event) bool
		l, want []api.Event
	}{
		{"nothing", byName("a"), nil, nil},
		{"none", byName("q"), list(start("a"), words("x"), end("a")), list(start("a"), words("x"), end("a"))},
		{"all", byName("a"), list(start("a"), words("x"), start("b"), end("b"), end("a")), nil},
		{"one within", byName("b"), list(start("a"), words("x"), start("b", at("c", "d")), words("y"), end("b"), words("z"), end("a")), list(start("a"), words("x"), words("z"), end("a"))},
		{"in one another", byName("a"), list(words("x"), start("a"), start("a"), end("a"), words("y"), start("a"), end("a"), end("a"), words("z")), list(words("x"), words("z"))},
		{"one behind the other", byName("a"), list(start("a"), end("a"), start("a"), end("a"), start("b"), end("b")), list(start("b"), end("b"))},
		{"texts", func(e api.Event) bool { return e.Kind == api.Words && e.Text != "y" }, list(words("x"), start("a"), words("x"), words("y"), end("a"), words("")), list(start("a"), words("y"), end("a"))},
		{"by attributes", func(e api.Event) bool { return slices.Contains(e.Attrs, at("b", "c")) }, list(start("a", at("b", "c")), words("x"), end("a"), start("a", at("b", "d")), end("a")), list(start("a", at("b", "d")), end("a"))},
		{"ends of whatever name", byName("a"), list(start("a"), start("b"), end("q"), words("x"), end(""), words("y"), end("a")), list(words("y"), end("a"))},
		{"ends of nothing", byName("a"), list(end("a"), end("b"), start("a"), end("a"), end("a")), list(end("a"), end("b"), end("a"))},
		{"an end that is meant", byName("ab"), list(end("a"), start("c"), end("a"), end("b")), list(end("a"), start("c"), end("a"), end("b"))},
		{"another kind", byName("a"), list(odd, start("b"), odd, end("b")), list(odd, start("b"), odd, end("b"))},
		{"another kind within", byName("a"), list(start("a"), odd, api.Event{}, end("a"), odd), list(odd)},
		{"open", byName("a"), list(words("x"), start("a"), words("y"), start("b"), end("b")), list(words("x"))},
		{"everything", func(api.Event) bool { return true }, list(words("x"), start("a"), end("b"), end("a"), odd, start("c")), list(end("a"), odd)},
	} {
		for _, why := range []api.Errno{api.ErrDone, api.ErrShort} {
			tells(t, x.what, events.Drop(to(why, x.l...), x.means), why, x.want...)
		}
	}
}

// P6.5: of which events Drop asks.
func TestDropAsks(t *testing.T) {
	var asked []api.Event
	l := list(words("x"), start("a"), words("y"), end("a"), end("q"), api.Event{Kind: bad}, start("b"), start("a"), words("z"), end("a"), words("w"), end("b"), words("v"))
	all(t, events.Drop(from(l...), func(e api.Event) bool {
		asked = append(asked, e)
		return e.Name == "a"
	}))
	if want := list(words("x"), start("a"), start("b"), start("a"), words("w"), words("v")); !slices.EqualFunc(asked, want, alike) {
		t.Error(asked)
	}
}

// pairs tells of each Start and End in a list where the other one is, by count; of one that has none -1.
func pairs(l []api.Event) []int {
	other := make([]int, len(l))
	for i, e := range l {
		other[i] = -1
		if e.Kind != api.Start {
			continue
		}
		depth := 0
		for j := i; j < len(l) && other[i] < 0; j++ {
			switch l[j].Kind {
			case api.Start:
				depth++
			case api.End:
				depth--
			}
			if depth == 0 {
				other[i] = j
			}
		}
	}
	for i := range l {
		if j := other[i]; j > i {
			other[j] = i
		}
	}
	return other
}

// dropped is what Drop must leave.
func dropped(l []api.Event, means func(e api.Event) bool) []api.Event {
	var out []api.Event
	other := pairs(l)
	for i := 0; i < len(l); i++ {
		asked := l[i].Kind == api.Start || l[i].Kind == api.Words
		switch {
		case !asked || !means(l[i]):
			out = append(out, l[i])
		case l[i].Kind == api.Start && other[i] < 0:
			return out
		case l[i].Kind == api.Start:
			i = other[i]
		}
	}
	return out
}

// bared is what Bare must leave.
func bared(l []api.Event, means func(name string) bool) []api.Event {
	var out []api.Event
	other := pairs(l)
	for i, e := range l {
		gone := e.Kind == api.Start && means(e.Name) || e.Kind == api.End && other[i] >= 0 && means(l[other[i]].Name)
		if !gone {
			out = append(out, e)
		}
	}
	return out
}

// mapped is what Map must tell, if to keeps kinds.
func mapped(l []api.Event, to func(e api.Event) api.Event) []api.Event {
	var out []api.Event
	other := pairs(l)
	for i, e := range l {
		switch {
		case e.Kind == api.Start || e.Kind == api.Words:
			e = to(e)
		case e.Kind == api.End && other[i] >= 0:
			e = end(out[other[i]].Name)
		}
		out = append(out, e)
	}
	return out
}

// P6.5, P6.6: Drop, Bare and Map of any events.
func TestChangeAny(t *testing.T) {
	m := newMaker(67)
	for range 20000 {
		l, ends := m.list(), m.ending()
		names := m.one("a", "b", "ab", "bc", "abc", "q")
		drop := func(e api.Event) bool { return byName(names)(e) || e.Text == "x" || len(e.Attrs) > 2 }
		tells(t, "Drop", events.Drop(to(ends, l...), drop), ends, dropped(l, drop)...)
		tells(t, "Bare", events.Bare(to(ends, l...), named(names)), ends, bared(l, named(names))...)
		tells(t, "Map", events.Map(to(ends, l...), louder), ends, mapped(l, louder)...)
	}
}

// louder makes another event of each.
func louder(e api.Event) api.Event {
	e.Name += "!"
	e.Text += "?"
	if len(e.Attrs) > 1 {
		e.Attrs = append(e.Attrs[1:], at("", "\x00"))
	}
	return e
}

// P6.5: Bare leaves out tags alone.
func TestBare(t *testing.T) {
	odd := api.Event{Kind: bad, Name: "a"}
	for _, x := range []struct {
		what, names string
		l, want     []api.Event
	}{
		{"nothing", "a", nil, nil},
		{"none", "q", list(start("a"), words("x"), end("a")), list(start("a"), words("x"), end("a"))},
		{"the outer one", "a", list(start("a"), words("x"), start("b", at("c", "d")), end("b"), end("a")), list(words("x"), start("b", at("c", "d")), end("b"))},
		{"the inner one", "b", list(start("a"), words("x"), start("b"), words("y"), end("b"), end("a")), list(start("a"), words("x"), words("y"), end("a"))},
		{"in one another", "a", list(start("a"), start("b"), start("a"), words("x"), end("a"), end("b"), end("a"), words("y")), list(start("b"), words("x"), end("b"), words("y"))},
		{"ends of other names", "a", list(start("a"), words("x"), end("b"), start("b"), end("a")), list(words("x"), start("b"), end("a"))},
		{"ends of nothing", "a", list(end("a"), start("a"), end("a"), end("a"), end("")), list(end("a"), end("a"), end(""))},
		{"open", "a", list(start("b"), start("a"), words("x")), list(start("b"), words("x"))},
		{"another kind", "a", list(odd, start("a"), odd, end("a")), list(odd, odd)},
		{"texts that have a name", "a", list(api.Event{Kind: api.Words, Name: "a", Text: "x"}), list(api.Event{Kind: api.Words, Name: "a", Text: "x"})},
	} {
		for _, why := range []api.Errno{api.ErrDone, api.ErrShort} {
			tells(t, x.what, events.Bare(to(why, x.l...), named(x.names)), why, x.want...)
		}
	}
	var asked []string
	all(t, events.Bare(from(start("a"), words("x"), start("b"), end("b"), end("a"), end("q"), odd, start("a")), func(name string) bool {
		asked = append(asked, name)
		return true
	}))
	if !slices.Equal(asked, []string{"a", "b", "a"}) {
		t.Error(asked)
	}
	n := 1 << 16
	deep := join(times(n, start("a"), start("b")), times(n, end("q"), end("p")))
	tells(t, "deep", events.Bare(from(deep...), named("a")), api.ErrDone, join(times(n, start("b")), times(n, end("q")))...)
}

// P6.6: Map puts others in their place.
func TestMap(t *testing.T) {
	odd := api.Event{Kind: bad, Name: "a", Text: "x", Attrs: attrs(2)}
	rename := func(e api.Event) api.Event {
		if e.Kind == api.Words {
			return words(e.Text + e.Text)
		}
		return start(e.Name+"1", at("was", e.Name))
	}
	was := func(name string) api.Event { return start(name+"1", at("was", name)) }
	for _, x := range []struct {
		what    string
		l, want []api.Event
	}{
		{"nothing", nil, nil},
		{"nodes", list(start("a", at("b", "c")), words("x"), start("b"), end("b"), end("a"), words("")), list(was("a"), words("xx"), was("b"), end("b1"), end("a1"), words(""))},
		{"ends of other names", list(start("a"), start("b"), end("q"), end("")), list(was("a"), was("b"), end("b1"), end("a1"))},
		{"ends of nothing", list(end("a"), start("b"), end("b"), end("b"), end("")), list(end("a"), was("b"), end("b1"), end("b"), end(""))},
		{"another kind", list(odd, start("b"), odd, api.Event{}, end("b")), list(odd, was("b"), odd, api.Event{}, end("b1"))},
		{"open", list(start("a"), words("x")), list(was("a"), words("xx"))},
	} {
		for _, why := range []api.Errno{api.ErrDone, api.ErrShort} {
			tells(t, x.what, events.Map(to(why, x.l...), rename), why, x.want...)
		}
	}
	// What an answer has goes on, whatever it is.
	any := func(e api.Event) api.Event {
		return api.Event{Kind: e.Kind, Name: "1<", Attrs: list(start("", at("", "\x00"), at("", "")))[0].Attrs, Text: "\xff"}
	}
	a, x := any(start("a")), any(words("x"))
	tells(t, "anything", events.Map(from(start("a"), words("x"), end("a")), any), api.ErrDone, a, x, end("1<"))
	// An answer of another kind is none.
	for _, kind := range []int{0, api.Start, api.Words, api.End, 4, -1} {
		turn := func(e api.Event) api.Event {
			if e.Name == "b" || e.Text == "y" {
				e.Kind = kind
			}
			return e
		}
		for _, e := range list(start("b"), words("y")) {
			s := &given{list: list(start("a"), words("x"), e, end("b")), why: api.ErrDone}
			if e.Kind == kind {
				continue
			}
			tells(t, "another kind", events.Map(s.tell, turn), api.ErrEvent, start("a"), words("x"))
			if s.asked != 3 {
				t.Error("asked behind an error:", s.asked)
			}
		}
	}
	var asked []api.Event
	all(t, events.Map(from(start("a"), words("x"), end("a"), end("q"), odd, words("y")), func(e api.Event) api.Event {
		asked = append(asked, e)
		return e
	}))
	if !slices.EqualFunc(asked, list(start("a"), words("x"), words("y")), alike) {
		t.Error(asked)
	}
}
