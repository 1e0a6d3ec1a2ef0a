package events_test

import (
	"slices"
	"strings"
	"testing"

	"espalier/api"
	"espalier/events"
)

// P6.3: Check lets through what can be.
func TestCheck(t *testing.T) {
	for _, l := range rights() {
		tells(t, "Check", events.Check(from(l...)), api.ErrDone, l...)
		tells(t, "Check", events.Check(to(api.ErrShort, l...)), api.ErrShort, l...)
	}
	for _, x := range wrongs() {
		s := &given{list: join(x.l, list(words("y"))), why: api.ErrDone}
		if x.fine == len(x.l) {
			s.list = x.l
		}
		tells(t, x.what, events.Check(s.tell), x.why, x.l[:x.fine]...)
		if s.asked != x.fine+1 {
			t.Errorf("%s: asked %d times, not %d", x.what, s.asked, x.fine+1)
		}
	}
	// What a source ends with comes ahead of what is open.
	tells(t, "Check", events.Check(to(api.ErrShort, start("a"))), api.ErrShort, start("a"))
	// What a kind does not name plays no part, and goes on.
	odd := list(
		api.Event{Kind: api.Start, Name: "a", Text: "\x00"},
		api.Event{Kind: api.Words, Name: "1", Attrs: attrs(40), Text: "x"},
		api.Event{Kind: api.End, Name: "a", Attrs: attrs(40), Text: "\xff"},
	)
	tells(t, "Check", events.Check(from(odd...)), api.ErrDone, odd...)
	if f, why := events.Build(from(odd...)); why != api.OK || !alikeTrees(f, forest(el("a", text("x")))) {
		t.Error(f, why)
	}
}

// P6.3: Check of any events.
func TestCheckAny(t *testing.T) {
	m := newMaker(65)
	for range 20000 {
		l, ends := m.list(), m.ending()
		n, why := fine(l)
		if n == len(l) && ends != api.ErrDone {
			why = ends
		}
		tells(t, "Check", events.Check(to(ends, l...)), why, l[:n]...)
	}
}

// P6.3: Texts makes one of several.
func TestTexts(t *testing.T) {
	most := long(api.MaxText)
	for _, x := range []struct {
		what    string
		l, want []api.Event
		why     api.Errno
	}{
		{"nothing", nil, nil, api.ErrDone},
		{"one", list(words("x")), list(words("x")), api.ErrDone},
		{"two", list(words("x"), words("y")), list(words("xy")), api.ErrDone},
		{"none", list(words("")), nil, api.ErrDone},
		{"none of several", list(words(""), words(""), words("")), nil, api.ErrDone},
		{"empty ones among them", list(words(""), words("x"), words(""), words("y"), words("")), list(words("xy")), api.ErrDone},
		{"empty ones in an element", list(start("a"), words(""), words(""), end("a")), list(start("a"), end("a")), api.ErrDone},
		{"around", list(words("x"), words("y"), start("a"), words("z"), words("w"), end("a"), words("v"), words("u")), list(words("xy"), start("a"), words("zw"), end("a"), words("vu")), api.ErrDone},
		{"another kind between", list(words("x"), api.Event{Kind: bad, Text: "y"}, words("z")), list(words("x"), api.Event{Kind: bad, Text: "y"}, words("z")), api.ErrDone},
		{"nothing but texts is looked at", list(end("a"), words("\x00"), words("\xff"), start("")), list(end("a"), words("\x00\xff"), start("")), api.ErrDone},
		{"an error behind a text", list(words("x"), words("y")), list(words("xy")), api.ErrShort},
		{"an error behind an empty one", list(words("")), nil, api.ErrShort},
		{"as long as can be", list(words("x"), words(most[1:])), list(words(most)), api.ErrDone},
		{"as long as can be, and nothing", list(words(most), words(""), end("a")), list(words(most), end("a")), api.ErrDone},
	} {
		tells(t, x.what, events.Texts(to(x.why, x.l...)), x.why, x.want...)
	}
	for _, x := range []struct {
		what    string
		l, want []api.Event
		asked   int
	}{
		{"one too long", list(words(most+"x"), start("a")), nil, 1},
		{"two too long", list(start("a"), words("x"), words(most), words("y")), list(start("a")), 3},
		{"many too long", append(times(api.MaxText, words("x")), words("y"), words("z")), nil, api.MaxText + 1},
		{"behind one that is not", list(words(most), start("a"), words(most), words("x")), list(words(most), start("a")), 4},
	} {
		s := &given{list: x.l, why: api.ErrDone}
		tells(t, x.what, events.Texts(s.tell), api.ErrLong, x.want...)
		if s.asked != x.asked {
			t.Errorf("%s: asked %d times, not %d", x.what, s.asked, x.asked)
		}
	}
	// The run ahead of a panic is told first, too.
	tells(t, "panics", events.Texts(events.Then(from(words("x")), panics)), api.ErrPanic, words("x"))
	tells(t, "nil behind", events.Texts(events.Then(from(words("x")), nil)), api.ErrArg, words("x"))
}

// P6.3: Texts of any events.
func TestTextsAny(t *testing.T) {
	m := newMaker(66)
	for range 10000 {
		l, ends := m.list(), m.ending()
		var want []api.Event
		for i := 0; i < len(l); {
			n := slices.IndexFunc(l[i:], func(e api.Event) bool { return e.Kind != api.Words })
			if n < 0 {
				n = len(l) - i
			}
			var run []string
			for _, e := range l[i : i+n] {
				run = append(run, e.Text)
			}
			if s := strings.Join(run, ""); s != "" {
				want = append(want, words(s))
			}
			if i += n; i < len(l) {
				want = append(want, l[i])
				i++
			}
		}
		tells(t, "Texts", events.Texts(to(ends, l...)), ends, want...)
	}
}

// P6.3: Most lets so many through, and asks no more than it has to.
func TestMost(t *testing.T) {
	l := list(start("a"), words("x"), end("b"), api.Event{Kind: bad}, words("\x00"))
	for _, ends := range []api.Errno{api.ErrDone, api.ErrShort, -3} {
		for n := range len(l) + 3 {
			s := &given{list: l, why: ends}
			if n < len(l) {
				tells(t, "Most", events.Most(s.tell, n), api.ErrLong, l[:n]...)
			} else {
				tells(t, "Most", events.Most(s.tell, n), ends, l...)
			}
			if want := min(n, len(l)) + 1; s.asked != want {
				t.Errorf("%d: asked %d times, not %d", n, s.asked, want)
			}
		}
	}
	tells(t, "Most", events.Most(from(), 0), api.ErrDone)
	tells(t, "Most", events.Most(from(l...), int(^uint(0)>>1)), api.ErrDone, l...)
	for _, n := range []int{-1, -1 << 63} {
		s := &given{list: l, why: api.ErrDone}
		tells(t, "Most", events.Most(s.tell, n), api.ErrArg)
		if s.asked != 0 {
			t.Error("asked")
		}
	}
}

// P6.4: Then tells one behind the other.
func TestThen(t *testing.T) {
	a, b, c := list(start("a")), list(words("x"), words("y")), list(end("b"), start("c"))
	tells(t, "none", events.Then(), api.ErrDone)
	tells(t, "one", events.Then(from(a...)), api.ErrDone, a...)
	tells(t, "three", events.Then(from(a...), from(b...), from(c...)), api.ErrDone, join(a, b, c)...)
	tells(t, "empty ones", events.Then(from(), from(), from(b...), from(), from(c...), from()), api.ErrDone, join(b, c)...)
	tells(t, "empty ones alone", events.Then(from(), from(), from()), api.ErrDone)
	for _, why := range []api.Errno{api.ErrShort, api.ErrEvent, -1} {
		third := &given{list: c, why: api.ErrDone}
		tells(t, "an error", events.Then(from(a...), to(why, b...), third.tell), why, join(a, b)...)
		if third.asked != 0 {
			t.Error("asked behind an error")
		}
	}
	tells(t, "nil", events.Then(from(a...), nil, from(b...)), api.ErrArg, a...)
	tells(t, "nil first", events.Then(nil, from(b...)), api.ErrArg)
	tells(t, "panics", events.Then(from(a...), panics, from(b...)), api.ErrPanic, a...)
	// The list of sources is not kept, and not changed.
	l := []api.Source{from(a...), from(b...), from(c...)}
	s := events.Then(l...)
	for i := range l {
		l[i] = nil
	}
	tells(t, "a list that is changed", s, api.ErrDone, join(a, b, c)...)
	l = []api.Source{from(a...), from(b...), nil}
	s = events.Then(l[:2]...)
	all(t, s)
	if l[0] == nil || l[1] == nil || l[2] != nil {
		t.Error("the list was changed")
	}
	// A source is asked only when it is its turn.
	first, second := &given{list: b, why: api.ErrDone}, &given{list: c, why: api.ErrDone}
	s = events.Then(first.tell, second.tell)
	for i, want := range [][2]int{{1, 0}, {2, 0}, {3, 1}, {3, 2}, {3, 3}, {3, 3}} {
		s()
		if first.asked != want[0] || second.asked != want[1] {
			t.Errorf("%d: %d, %d", i, first.asked, second.asked)
		}
	}
}
