package events_test

import (
	"slices"
	"testing"

	"espalier/api"
	"espalier/events"
	"espalier/markup"
	"espalier/tree"
)

// wrong is events in which something is: what of them can be, and the error behind that.
type wrong struct {
	what string
	l    []api.Event
	fine int
	why  api.Errno
}

// wrongs is what can be wrong in events, one by one and together.
func wrongs() []wrong {
	deep := times(api.MaxDepth, start("c"))
	full := times(api.MaxNodes, words("x"))
	manyAttrs := start("a", attrs(api.MaxAttrs+1)...)
	return []wrong{
		{"another name", list(start("a"), end("b")), 1, api.ErrEvent},
		{"no name", list(start("a"), end("")), 1, api.ErrEvent},
		{"crossed", list(start("a"), start("b"), end("a"), end("b")), 2, api.ErrEvent},
		{"end of nothing", list(end("a")), 0, api.ErrEvent},
		{"end of nothing, without a name", list(end("")), 0, api.ErrEvent},
		{"an end too many", list(start("a"), end("a"), end("a")), 2, api.ErrEvent},
		{"open", list(start("a")), 1, api.ErrEvent},
		{"one of two open", list(start("a"), start("a"), end("a")), 3, api.ErrEvent},
		{"kind 0", list(words("x"), api.Event{}), 1, api.ErrEvent},
		{"kind 4", list(api.Event{Kind: 4, Name: "a"}), 0, api.ErrEvent},
		{"kind -1", list(start("a"), api.Event{Kind: -1, Name: "a"}, end("a")), 1, api.ErrEvent},
		{"empty name", list(start("")), 0, api.ErrName},
		{"wrong name", list(words("x"), start("1")), 1, api.ErrName},
		{"long name", list(start(long(api.MaxName+1)), end("a")), 0, api.ErrName},
		{"wrong text", list(start("a"), words("x\x00"), end("b")), 1, api.ErrText},
		{"long text", list(words("x"), words(long(api.MaxText+1)), end("b")), 1, api.ErrLong},
		{"long wrong text", list(words("\x00" + long(api.MaxText))), 0, api.ErrLong},
		{"many attributes", list(start("b"), manyAttrs), 1, api.ErrLong},
		{"wrong name, many attributes", list(start("1", attrs(api.MaxAttrs+1)...)), 0, api.ErrName},
		{"an attribute's name", list(start("a", at("b", ""), at("1", ""))), 0, api.ErrName},
		{"an attribute twice", list(start("a", at("b", ""), at("b", ""))), 0, api.ErrName},
		{"attributes that fall", list(start("a", at("b", "\x00"), at("a", ""))), 0, api.ErrText},
		{"a wrong value", list(start("a", at("b", "\xff"))), 0, api.ErrText},
		{"a long value", list(start("a", at("b", long(api.MaxText+1)), at("a", ""))), 0, api.ErrLong},
		{"too deep, an element", join(deep, list(start("c"))), api.MaxDepth, api.ErrLong},
		{"too deep, a text", join(deep, list(words(""))), api.MaxDepth, api.ErrLong},
		{"too deep, after its own error", join(deep, list(start("1"))), api.MaxDepth, api.ErrName},
		{"too deep, after its own error, a text", join(deep, list(words("\x00"))), api.MaxDepth, api.ErrText},
		{"too deep, after another kind", join(deep, list(api.Event{Kind: bad})), api.MaxDepth, api.ErrEvent},
		{"too many, a text", join(full, list(words("x"))), api.MaxNodes, api.ErrLong},
		{"too many, an element", join(full, list(start("a"))), api.MaxNodes, api.ErrLong},
		{"too many, after its own error", join(full, list(start(""))), api.MaxNodes, api.ErrName},
		{"too many, after its own error, a text", join(full, list(words("\xff"))), api.MaxNodes, api.ErrText},
		{"too many elements", join(times(api.MaxNodes, start("a"), end("a")), list(words("x"))), 2 * api.MaxNodes, api.ErrLong},
		{"as many as can be, and an end", join(full, list(end("a"))), api.MaxNodes, api.ErrEvent},
		{"too many, open", join(list(start("a")), full), api.MaxNodes, api.ErrLong},
	}
}

// rights is events that can be, to the edges.
func rights() [][]api.Event {
	deep := times(api.MaxDepth-1, start("c"))
	back := times(api.MaxDepth-1, end("c"))
	return [][]api.Event{
		nil,
		list(words("")),
		list(words("x"), words("y")),
		list(start("a"), end("a")),
		list(start("a"), words("x"), start("b", at("c", "d")), words(""), end("b"), words("y"), end("a"), start("a"), end("a")),
		list(start(long(api.MaxName), attrs(api.MaxAttrs)...), end(long(api.MaxName))),
		list(start("a", at("b", long(api.MaxText))), words(long(api.MaxText)), end("a")),
		join(deep, list(words("x"), start("d"), end("d")), back),
		join(deep, list(start("d"), end("d"), start("d"), end("d")), back, deep, back),
		times(api.MaxNodes, words("x")),
		times(api.MaxNodes, start("a"), end("a")),
		join(list(start("a")), times(api.MaxNodes-1, words("")), list(end("a"))),
	}
}

// P6.2: Build makes the forest of which the events are.
func TestBuild(t *testing.T) {
	for i, l := range rights() {
		f, why := events.Build(from(l...))
		if why != api.OK || !slices.EqualFunc(plain(f), l, alike) {
			t.Errorf("%d: %s, %d", i, show(f), why)
		}
	}
	f, why := events.Build(from(start("a", at("b", "c")), words("x"), start("d"), end("d"), end("a"), words("")))
	if want := forest(with(el("a", text("x"), el("d")), at("b", "c")), text("")); why != api.OK || !alikeTrees(f, want) {
		t.Error(f, why)
	}
}

// P6.2: as soon as something is wrong Build tells it, and asks no more.
func TestBuildWrong(t *testing.T) {
	for _, x := range wrongs() {
		for _, rest := range [][]api.Event{nil, list(words("\x00"), start(""))} {
			if x.fine == len(x.l) && rest != nil {
				continue // the end is what is wrong
			}
			s := &given{list: join(x.l, rest), why: api.ErrDone}
			if f, why := events.Build(s.tell); len(f) != 0 || why != x.why || s.asked != x.fine+1 {
				t.Errorf("%s: %s, %d, asked %d times; want %d, %d", x.what, show(f), why, s.asked, x.why, x.fine+1)
			}
		}
	}
}

// P6.2: a source's own error is Build's, also where something is open.
func TestBuildEnds(t *testing.T) {
	for _, why := range []api.Errno{api.ErrArg, api.ErrShort, api.ErrPanic, api.ErrEvent, -1, 77} {
		for _, l := range [][]api.Event{nil, list(start("a")), list(start("a"), words("x"), end("a"))} {
			s := &given{list: l, why: why}
			if f, e := events.Build(s.tell); len(f) != 0 || e != why || s.asked != len(l)+1 {
				t.Error(l, f, e, why)
			}
			if s, e := events.Print(to(why, l...)); s != "" || e != why {
				t.Error(l, s, e, why)
			}
			if a, b, c, e := events.Count(to(why, l...)); a != 0 || b != 0 || c != 0 || e != why {
				t.Error(l, a, b, c, e, why)
			}
		}
	}
	for _, x := range []struct {
		s   api.Source
		why api.Errno
	}{{nil, api.ErrArg}, {panics, api.ErrPanic}, {events.Then(from(start("a")), panics), api.ErrPanic}} {
		if f, e := events.Build(x.s); len(f) != 0 || e != x.why {
			t.Error(f, e)
		}
		if s, e := events.Print(x.s); s != "" || e != x.why {
			t.Error(s, e)
		}
		if a, b, c, e := events.Count(x.s); a != 0 || b != 0 || c != 0 || e != x.why {
			t.Error(a, b, c, e)
		}
	}
}

// P6.2: a source that never ends is asked only as long as it can be right.
func TestBuildForever(t *testing.T) {
	for what, l := range map[string][]api.Event{"texts": list(words("")), "starts": list(start("a")), "elements": list(start("a"), end("a"))} {
		asked := 0
		_, why := events.Build(func() (api.Event, api.Errno) {
			asked++
			return l[(asked-1)%len(l)], api.OK
		})
		if why != api.ErrLong || asked > 2*api.MaxNodes+1 {
			t.Error(what, why, asked)
		}
	}
}

// P6.2: Print is what markup has of the forest.
func TestPrint(t *testing.T) {
	for i, l := range rights() {
		f, _ := events.Build(from(l...))
		want, wantWhy := markup.Print(f)
		if s, why := events.Print(from(l...)); s != want || why != wantWhy {
			t.Errorf("%d: %q, %d", i, brief(s), why)
		}
	}
	for _, x := range wrongs() {
		if s, why := events.Print(from(x.l...)); s != "" || why != x.why {
			t.Errorf("%s: %q, %d", x.what, brief(s), why)
		}
	}
	if s, why := events.Print(from(start("a", at("b", "\"")), words("<"), words(""), words("&"), end("a"))); s != `<a b="&quot;">&lt;&amp;</a>` || why != api.OK {
		t.Error(s, why)
	}
	// Forests that can be, but whose markup is too long.
	n := api.MaxBytes / api.MaxText
	if s, why := events.Print(from(times(n, words(long(api.MaxText)))...)); len(s) != api.MaxBytes || why != api.OK {
		t.Error(len(s), why)
	}
	if s, why := events.Print(from(append(times(n, words(long(api.MaxText))), words("x"))...)); s != "" || why != api.ErrLong {
		t.Error(len(s), why)
	}
}

// P6.2: Count tells of the forest how much it has.
func TestCount(t *testing.T) {
	for _, x := range []struct {
		l                      []api.Event
		elements, texts, depth int
	}{
		{nil, 0, 0, 0},
		{list(words("")), 0, 1, 1},
		{list(start("a"), end("a")), 1, 0, 1},
		{list(start("a"), words("x"), end("a")), 1, 1, 2},
		{list(start("a"), words("x"), start("b"), words("y"), end("b"), end("a"), words("z")), 2, 3, 3},
		{list(start("a"), start("b"), end("b"), end("a"), start("a"), end("a"), words("z"), words("z")), 3, 2, 2},
		{times(api.MaxNodes, start("a"), end("a")), api.MaxNodes, 0, 1},
		{join(times(api.MaxDepth-1, start("a")), list(words("x")), times(api.MaxDepth-1, end("a"))), api.MaxDepth - 1, 1, api.MaxDepth},
		{join(times(api.MaxDepth, start("a")), times(api.MaxDepth, end("a"))), api.MaxDepth, 0, api.MaxDepth},
	} {
		if a, b, c, why := events.Count(from(x.l...)); a != x.elements || b != x.texts || c != x.depth || why != api.OK {
			t.Errorf("%s: %d, %d, %d, %d", show(x.l), a, b, c, why)
		}
	}
	for _, x := range wrongs() {
		if a, b, c, why := events.Count(from(x.l...)); a != 0 || b != 0 || c != 0 || why != x.why {
			t.Errorf("%s: %d, %d, %d, %d", x.what, a, b, c, why)
		}
	}
}

// fine is how many of these events can be, and what is wrong behind them; found by closing what is open and looking at the whole forest.
func fine(l []api.Event) (int, api.Errno) {
	for n := range len(l) {
		if _, why := parsed(l[:n+1], true); why != api.OK {
			return n, why
		}
	}
	if _, why := parsed(l, false); why != api.OK {
		return len(l), why
	}
	return len(l), api.ErrDone
}

// parsed reads events by descending into them; may they break off, all that is open ends there.
func parsed(l []api.Event, may bool) ([]api.Tree, api.Errno) {
	why := api.OK
	var siblings func(inside bool, name string) []api.Tree
	siblings = func(inside bool, name string) []api.Tree {
		var f []api.Tree
		for len(l) > 0 && why == api.OK {
			e := l[0]
			l = l[1:]
			x := api.Tree{}
			switch e.Kind {
			case api.Start:
				x = with(el(e.Name), e.Attrs...)
				if why = tree.Check(x); why == api.OK {
					x.Kids = siblings(true, e.Name)
				}
			case api.Words:
				x = text(e.Text)
				why = tree.Check(x)
			default:
				if e.Kind != api.End || !inside || e.Name != name {
					why = api.ErrEvent
				}
				return f
			}
			f = append(f, x)
		}
		if inside && !may && why == api.OK {
			why = api.ErrEvent
		}
		return f
	}
	return siblings(false, ""), why
}

// P6.2: of any events Build, Print and Count answer what the forest does.
func TestBuildAny(t *testing.T) {
	m := newMaker(63)
	right := 0
	for range 20000 {
		l, ends := m.list(), m.ending()
		n, why := fine(l)
		switch {
		case n == len(l) && ends != api.ErrDone:
			why = ends
		case why == api.ErrDone:
			why = api.OK
		}
		var want []api.Tree
		if why == api.OK {
			right++
			want, _ = parsed(l, false)
		}
		f, e := events.Build(to(ends, l...))
		if e != why || !alikeTrees(f, want) {
			t.Fatalf("Build of %v, %d: %v, %d; want %v, %d", l, ends, f, e, want, why)
		}
		printed, _ := markup.Print(want)
		if s, e := events.Print(to(ends, l...)); s != printed || e != why {
			t.Fatalf("Print of %v, %d: %q, %d; want %q, %d", l, ends, s, e, printed, why)
		}
		wantA, wantB, wantC := measure(want)
		if a, b, c, e := events.Count(to(ends, l...)); a != wantA || b != wantB || c != wantC || e != why {
			t.Fatalf("Count of %v, %d: %d, %d, %d, %d", l, ends, a, b, c, e)
		}
	}
	if right < 2000 {
		t.Error("too few that can be:", right)
	}
}

// measure is how many elements and texts a forest has, and how deep it is.
func measure(f []api.Tree) (elements, texts, deep int) {
	for _, x := range f {
		a, b, c := measure(x.Kids)
		elements, texts, deep = elements+a, texts+b, max(deep, c+1)
		if x.Kind == api.Element {
			elements++
		} else {
			texts++
		}
	}
	return
}

// P6.2: a forest that is built is nobody else's.
func TestBuildMemory(t *testing.T) {
	kept := attrs(3)[:2]
	l := list(start("a", kept...), start("b", kept...), end("b"), words("x"), end("a"), start("a", kept...), end("a"))
	f, _ := events.Build(from(l...))
	for _, x := range []*api.Tree{&f[0], &f[0].Kids[0], &f[1]} {
		if !slices.Equal(x.Attrs, attrs(2)) {
			t.Error(x.Attrs)
		}
		ruin(x.Attrs)
	}
	if !slices.Equal(kept[:3], attrs(3)) {
		t.Error(kept[:3])
	}
	g, _ := events.Build(from(l...))
	ruin(kept[:3])
	if !slices.Equal(g[0].Attrs, attrs(2)) {
		t.Error(g[0].Attrs)
	}
	m := newMaker(64)
	for range 200 {
		f, _ := events.Build(from(plain(m.forest(5))...))
		was := copyOf(f)
		fillSpare(f)
		if !alikeTrees(f, was) {
			t.Fatal("two lists share memory:", f, was)
		}
	}
}

// fillSpare writes into the spare room of all lists of a forest.
func fillSpare(f []api.Tree) {
	for i := range f {
		fillSpare(f[i].Kids)
		ruin(f[i].Attrs[len(f[i].Attrs):])
	}
	spoil(f[len(f):cap(f)])
}
