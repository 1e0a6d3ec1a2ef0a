package events_test

import (
	"slices"
	"testing"

	"espalier/api"
	"espalier/events"
	"espalier/markup"
)

// kinds is every way in which a source is made of another one, with functions that leave events as they are.
func kinds() map[string]func(s api.Source) api.Source {
	return map[string]func(s api.Source) api.Source{
		"Check": events.Check,
		"Texts": events.Texts,
		"Most":  func(s api.Source) api.Source { return events.Most(s, 1000) },
		"Then":  func(s api.Source) api.Source { return events.Then(s) },
		"Then2": func(s api.Source) api.Source { return events.Then(from(), s, from()) },
		"Drop":  func(s api.Source) api.Source { return events.Drop(s, func(api.Event) bool { return false }) },
		"Bare":  func(s api.Source) api.Source { return events.Bare(s, func(string) bool { return false }) },
		"Map":   func(s api.Source) api.Source { return events.Map(s, func(e api.Event) api.Event { return e }) },
	}
}

// 6.2: nothing is asked ahead of a call, and nothing behind the end; the end stays, and nothing stands beside it.
func TestSources(t *testing.T) {
	l := list(start("a", at("b", "c")), words("x"), end("a"))
	for what, make := range kinds() {
		for _, why := range []api.Errno{api.ErrDone, api.ErrShort, api.ErrPanic, -1} {
			g := &given{list: l, why: why}
			s := make(g.tell)
			if g.asked != 0 {
				t.Error(what, "asks when it is made")
			}
			tells(t, what, s, why, l...)
			if g.late != 0 || g.asked != len(l)+1 {
				t.Error(what, why, g.asked, g.late)
			}
		}
		tells(t, what, make(nil), api.ErrArg)
		tells(t, what, make(panics), api.ErrPanic)
		tells(t, what, make(make(nil)), api.ErrArg)
	}
	tells(t, "Of", events.Of(nil), api.ErrDone)
	tells(t, "Read", events.Read(""), api.ErrDone)
}

// 6.2: a panic, of whatever, is an answer; what panicked is not called again.
func TestPanics(t *testing.T) {
	for _, what := range []any{"x", 1, nil, api.ErrShort, list()} {
		for name, make := range kinds() {
			calls := 0
			s := make(func() (api.Event, api.Errno) {
				calls++
				if calls == 2 {
					panic(what)
				}
				return start("a"), api.OK
			})
			tells(t, name, s, api.ErrPanic, start("a"))
			if calls != 2 {
				t.Error(name, calls)
			}
		}
		calls := 0
		fail := func() {
			if calls++; calls == 2 {
				panic(what)
			}
		}
		for name, s := range map[string]func(g *given) api.Source{
			"Drop": func(g *given) api.Source { return events.Drop(g.tell, func(api.Event) bool { fail(); return false }) },
			"Bare": func(g *given) api.Source { return events.Bare(g.tell, func(string) bool { fail(); return false }) },
			"Map":  func(g *given) api.Source { return events.Map(g.tell, func(e api.Event) api.Event { fail(); return e }) },
		} {
			calls = 0
			g := &given{list: list(start("a"), start("b"), words("x")), why: api.ErrDone}
			tells(t, name, s(g), api.ErrPanic, start("a"))
			if calls != 2 || g.asked != 2 {
				t.Error(name, calls, g.asked)
			}
		}
	}
	// A list that is too short, and nothing where there should be something.
	tells(t, "Map", events.Map(from(start("a")), func(e api.Event) api.Event { return start(e.Attrs[0].Name) }), api.ErrPanic)
	var none *given
	tells(t, "Check", events.Check(none.tell), api.ErrPanic)
}

// 6.2: without a function there is nothing, and nothing is asked.
func TestNoFunction(t *testing.T) {
	g := &given{list: list(start("a")), why: api.ErrDone}
	tells(t, "Drop", events.Drop(g.tell, nil), api.ErrArg)
	tells(t, "Bare", events.Bare(g.tell, nil), api.ErrArg)
	tells(t, "Map", events.Map(g.tell, nil), api.ErrArg)
	tells(t, "Drop", events.Drop(nil, nil), api.ErrArg)
	tells(t, "Bare", events.Bare(nil, nil), api.ErrArg)
	tells(t, "Map", events.Map(nil, nil), api.ErrArg)
	tells(t, "Most", events.Most(nil, -1), api.ErrArg)
	if g.asked != 0 {
		t.Error("asked")
	}
}

// 6.2: events that are told are nobody else's: not of the source that was handed in, not of what was told ahead.
func TestToldMemory(t *testing.T) {
	for what, make := range kinds() {
		kept := attrs(5)[:3]
		e := start("a", kept...)
		s := make(from(e, e, end("a"), end("a")))
		one, _ := s()
		ruin(one.Attrs)
		if !slices.Equal(kept[:5], attrs(5)) {
			t.Error(what, "changes what was handed in:", kept[:5])
		}
		two, _ := s()
		ruin(kept)
		if !slices.Equal(two.Attrs, attrs(3)) {
			t.Error(what, "tells", two.Attrs)
		}
	}
	// What Texts keeps back is its own, too.
	kept := attrs(3)
	s := events.Texts(from(words("x"), start("a", kept...)))
	s()
	ruin(kept)
	if e, _ := s(); !slices.Equal(e.Attrs, attrs(3)) {
		t.Error(e)
	}
}

// 6.2: events that are shown to functions are nobody else's.
func TestShownMemory(t *testing.T) {
	kept := attrs(5)[:3]
	var shown []api.Attr
	s := events.Drop(from(start("a", kept...), end("a")), func(e api.Event) bool {
		shown = e.Attrs
		ruin(e.Attrs)
		return false
	})
	e, _ := s()
	if !slices.Equal(e.Attrs, attrs(3)) || !slices.Equal(kept[:5], attrs(5)) {
		t.Error(e, kept[:5])
	}
	ruin(e.Attrs)
	if len(shown) != 3 {
		t.Error(shown)
	}
	e, _ = events.Map(from(start("a", kept...)), func(e api.Event) api.Event {
		shown = e.Attrs
		return e
	})()
	ruin(shown)
	if !slices.Equal(e.Attrs, attrs(3)) || !slices.Equal(kept[:5], attrs(5)) {
		t.Error(e, kept[:5])
	}
	// What a function answers stays its own.
	mine := attrs(5)[:3]
	s = events.Map(from(start("a"), start("a")), func(e api.Event) api.Event { return start("b", mine...) })
	one, _ := s()
	ruin(one.Attrs)
	if !slices.Equal(mine[:5], attrs(5)) {
		t.Error(mine[:5])
	}
	two, _ := s()
	ruin(mine)
	if !slices.Equal(two.Attrs, attrs(3)) {
		t.Error(two)
	}
}

// P6.7: there and back.
func TestThereAndBack(t *testing.T) {
	m := newMaker(68)
	for range 2000 {
		f := m.forest(5)
		was := copyOf(f)
		back, why := events.Build(events.Of(f))
		if why != api.OK || !markup.Same(back, f) || !slices.EqualFunc(plain(back), plain(f), alike) {
			t.Fatal(f, back, why)
		}
		if !alikeTrees(f, was) {
			t.Fatal("changed")
		}
		s, _ := markup.Print(f)
		read, _, _ := markup.Parse(s)
		tells(t, s, events.Read(s), api.ErrDone, plain(read)...)
		one, _ := all(t, events.Read(s))
		two, _ := all(t, events.Of(read))
		if !slices.EqualFunc(one, two, alike) {
			t.Fatal(s)
		}
		normal, _ := markup.Normal(f)
		tells(t, "Texts", events.Texts(events.Of(f)), api.ErrDone, plain(normal)...)
		printed, why := events.Print(events.Read(s))
		if printed != s || why != api.OK {
			t.Fatalf("%q: %q, %d", s, printed, why)
		}
	}
	// A text of the normal form that is too long.
	f := forest(el("a", text(long(api.MaxText)), text("x")))
	_, normal := markup.Normal(f)
	if _, why := events.Build(events.Texts(events.Of(f))); why != normal || why != api.ErrLong {
		t.Error(why, normal)
	}
}

// P6.8: one behind the other.
func TestOneBehindTheOther(t *testing.T) {
	m := newMaker(69)
	quieter := func(e api.Event) api.Event {
		e.Name = "q" + e.Name
		e.Attrs = append(e.Attrs, at("z", e.Text))
		return e
	}
	for range 5000 {
		l, ends := m.list(), m.ending()
		src := func() api.Source { return to(ends, l...) }
		same := func(what string, a, b api.Source) {
			t.Helper()
			want, why := all(t, b)
			tells(t, what, a, why, want...)
		}
		p, q := m.one("a", "b", "ab", "c"), m.one("a", "b", "bc", "c")
		same("Map", events.Map(events.Map(src(), louder), quieter), events.Map(src(), func(e api.Event) api.Event { return quieter(louder(e)) }))
		same("Drop", events.Drop(events.Drop(src(), byName(p)), byName(q)), events.Drop(src(), func(e api.Event) bool { return byName(p)(e) || byName(q)(e) }))
		same("Bare", events.Bare(events.Bare(src(), named(p)), named(q)), events.Bare(src(), func(s string) bool { return named(p)(s) || named(q)(s) }))
		k := m.list()
		same("Then", events.Then(events.Then(src(), from(k...)), src()), events.Then(src(), from(k...), src()))
		same("Then", events.Then(src(), events.Then(from(k...), src())), events.Then(src(), from(k...), src()))
		same("Texts", events.Texts(events.Texts(src())), events.Texts(src()))
		same("Check", events.Check(events.Check(src())), events.Check(src()))
	}
}

// P6.9: a source never asks further than it tells.
func TestAsItGoes(t *testing.T) {
	m := newMaker(70)
	for range 3000 {
		l := m.list()
		g := &given{list: l, why: api.ErrDone}
		for what, make := range kinds() {
			if what == "Texts" {
				continue
			}
			*g = given{list: l, why: api.ErrDone}
			s := make(g.tell)
			for n := 1; ; n++ {
				if _, why := s(); why != api.OK {
					break
				}
				if g.asked != n {
					t.Fatalf("%s: %d told, %d asked", what, n, g.asked)
				}
			}
		}
		// Those that are left out are asked, and no more.
		*g = given{list: l, why: api.ErrDone}
		s := events.Drop(g.tell, func(e api.Event) bool { return e.Kind == api.Words })
		for i, e := range l {
			if e.Kind == api.Words {
				continue
			}
			if s(); g.asked != i+1 {
				t.Fatalf("Drop: asked %d times, not %d", g.asked, i+1)
			}
		}
		// Of Texts one more than its runs have.
		*g = given{list: l, why: api.ErrDone}
		s = events.Texts(g.tell)
		for i := 0; i < len(l); {
			e, why := s()
			if why != api.OK {
				break
			}
			if e.Kind == api.Words {
				for run := ""; run != e.Text || i < len(l) && l[i].Kind == api.Words; i++ {
					run += l[i].Text
				}
				if g.asked != i+1 {
					t.Fatalf("Texts: asked %d times, not %d", g.asked, i+1)
				}
				continue
			}
			for i < len(l) && l[i].Kind == api.Words {
				i++
			}
			i++
			if g.asked != i {
				t.Fatalf("Texts: asked %d times, not %d", g.asked, i)
			}
		}
	}
	// Of a source that never ends.
	forever := func() (api.Event, api.Errno) { return words("x"), api.OK }
	s := events.Most(events.Map(events.Drop(events.Bare(events.Then(forever), named("a")), byName("a")), louder), 3)
	tells(t, "forever", s, api.ErrLong, times(3, louder(words("x")))...)
}

// The chapter's examples.
func TestExamples(t *testing.T) {
	a := list(start("a"), words("x"), start("b"), end("b"), end("a"))
	s := "<a>x<b/></a>"
	tells(t, s, events.Read(s), api.ErrDone, a...)
	tells(t, s, events.Read("<a>x"), api.ErrShort, a[:2]...)
	tells(t, s, events.Bare(events.Read(s), named("a")), api.ErrDone, a[1:4]...)
	tells(t, s, events.Drop(events.Read(s), byName("a")), api.ErrDone)
	if _, why := events.Build(from(start("a"), end("b"))); why != api.ErrEvent {
		t.Error(why)
	}
	tells(t, s, events.Most(events.Read(s), 1), api.ErrLong, a[0])
}
