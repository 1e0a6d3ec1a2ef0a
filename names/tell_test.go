package names_test

import (
	"slices"
	"testing"

	"espalier/api"
)

// P8.2: the lists of a document that has something of all.
func TestLists(t *testing.T) {
	x := abc(t)
	tells(t, "Named(a)", x.Named("a"), ha)
	tells(t, "Named(b)", x.Named("b"), hb1, hb2, hb3)
	tells(t, "Named(c)", x.Named("c"), hc)
	tells(t, "Texts", x.Texts(), hx, hy, hz)
	tells(t, "Having(k)", x.Having("k"), ha, hb2, hb3)
	tells(t, "Having(l)", x.Having("l"), hb2, hdd)
	tells(t, "Valued(k, 1)", x.Valued("k", "1"), ha, hb2)
	tells(t, "Valued(k, 2)", x.Valued("k", "2"), hb3)
	tells(t, "Valued(l, 1)", x.Valued("l", "1"), hdd)
	tells(t, "Valued(l, 2)", x.Valued("l", "2"), hb2)
	if l := x.Names(); !slices.Equal(l, []api.Named{{Name: "a", N: 1}, {Name: "b", N: 3}, {Name: "c", N: 1}, {Name: "d", N: 1}}) {
		t.Error(l)
	}
	for _, p := range slices.Concat(x.Named("b"), x.Texts(), x.Having("k"), x.Valued("k", "1")) {
		if span, _ := x.Doc().Span(p.Node); p.Span != span || span == (api.Span{}) {
			t.Errorf("%x has %v; in the document %v", p.Node, p.Span, span)
		}
	}
	holds(t, x)
}

// P8.2: of what is no name, or nobody's, none; an element's name is none of its attributes', and none of a text.
func TestNone(t *testing.T) {
	x := abc(t)
	for _, name := range append(noNames(), "", "x", "k", "1", "B", "bb") {
		tells(t, "Named", x.Named(name))
	}
	for _, name := range append(noNames(), "", "b", "1", "K", "kk") {
		tells(t, "Having", x.Having(name))
		tells(t, "Valued", x.Valued(name, "1"))
	}
	for _, value := range append(noNames()[1:], "", "k", "12", long(api.MaxText+1)) {
		tells(t, "Valued", x.Valued("k", value))
	}
	holds(t, x)
}

// P8.2: an attribute may have no value, and the name of an element, or of another attribute.
func TestAlike(t *testing.T) {
	x := newIndex(t, api.Image{})
	n := insert(t, x, api.Last, 0, with(el("a", text("a")), "a", "", "b", "a"))
	m := insert(t, x, api.Last, 0, with(el("b"), "a", "b", "b", ""))
	tells(t, "Named(a)", x.Named("a"), n)
	tells(t, "Having(a)", x.Having("a"), n, m)
	tells(t, "Valued(a, )", x.Valued("a", ""), n)
	tells(t, "Valued(a, a)", x.Valued("a", "a"))
	tells(t, "Valued(b, a)", x.Valued("b", "a"), n)
	tells(t, "Valued(b, )", x.Valued("b", ""), m)
	holds(t, x)
}

// P8.2: names rise byte by byte, as they are, and only those of elements are told.
func TestNames(t *testing.T) {
	x := newIndex(t, api.Image{})
	want := []string{"A", "Z", "_", "a", "a-", "a.", "a0", "aA", "aa", "b", "z", long(api.MaxName)}
	slices.Sort(want)
	order := dice(1).Perm(len(want))
	for _, i := range order {
		for range i + 1 {
			insert(t, x, api.First, 0, with(el(want[i]), "attr", "value"))
		}
	}
	insert(t, x, api.First, 0, text("text"))
	for range 10 {
		l := x.Names()
		if len(l) != len(want) {
			t.Fatal(l)
		}
		for i, n := range l {
			if n != (api.Named{Name: want[i], N: i + 1}) {
				t.Errorf("%v; want %q, %d", n, want[i], i+1)
			}
		}
	}
	for _, p := range x.Named("a") {
		answers(t, "Delete", x.Delete(p.Node), api.OK)
	}
	for _, n := range x.Names() {
		if n.Name == "a" {
			t.Error("nobody has it any more:", n)
		}
	}
	holds(t, x)
}

// P8.3: what lies in a node, and what comes ahead of it and behind it.
func TestNear(t *testing.T) {
	x := abc(t)
	for _, c := range []struct {
		name       string
		n          api.Handle
		within     []api.Handle
		next, back api.Handle
		rank       int
	}{
		{"b", ha, []api.Handle{hb1, hb2}, hb1, 0, 0},
		{"b", hb1, nil, hb2, 0, 0},
		{"b", hx, nil, hb2, hb1, 1},
		{"b", hb2, nil, hb3, hb1, 1},
		{"b", hy, nil, hb3, hb2, 2},
		{"b", hb3, nil, 0, hb2, 2},
		{"c", hb2, []api.Handle{hc}, hc, 0, 0},
		{"c", hdd, nil, 0, hc, 1},
		{"a", ha, nil, 0, 0, 0},
		{"a", hb3, nil, 0, ha, 1},
		{"", ha, []api.Handle{hb1, hb2, hc, hdd}, hb1, 0, 0},
		{"", hb2, []api.Handle{hc}, hc, hb1, 2},
		{"", hz, nil, hb3, hdd, 5},
		{"", hb3, nil, 0, hdd, 5},
		{"x", ha, nil, 0, 0, 0},
		{"k", hb3, nil, 0, 0, 0},
		{long(api.MaxName), hb3, nil, 0, 0, 0},
	} {
		l, e := x.Within(c.name, c.n)
		answers(t, "Within", e, api.OK)
		tells(t, "Within", l, c.within...)
		if n, ok, e := x.Next(c.name, c.n); n != c.next || ok != (c.next != 0) || e != api.OK {
			t.Errorf("Next(%q, %x): %x, %v, %d; want %x", c.name, c.n, n, ok, e, c.next)
		}
		if n, ok, e := x.Back(c.name, c.n); n != c.back || ok != (c.back != 0) || e != api.OK {
			t.Errorf("Back(%q, %x): %x, %v, %d; want %x", c.name, c.n, n, ok, e, c.back)
		}
		if n, e := x.Rank(c.name, c.n); n != c.rank || e != api.OK {
			t.Errorf("Rank(%q, %x): %d, %d; want %d", c.name, c.n, n, e, c.rank)
		}
	}
}

// P8.3: ErrName of what is no name, be n a node or not; ErrNode of what is no node, be there such a name or not.
func TestNearRefused(t *testing.T) {
	x := abc(t)
	refused := func(name string, n api.Handle, want api.Errno) {
		t.Helper()
		if l, e := x.Within(name, n); len(l) != 0 || e != want {
			t.Errorf("Within(%q, %x): %v, %d; want %d", name, n, l, e, want)
		}
		if m, ok, e := x.Next(name, n); m != 0 || ok || e != want {
			t.Errorf("Next(%q, %x): %x, %v, %d; want %d", name, n, m, ok, e, want)
		}
		if m, ok, e := x.Back(name, n); m != 0 || ok || e != want {
			t.Errorf("Back(%q, %x): %x, %v, %d; want %d", name, n, m, ok, e, want)
		}
		if r, e := x.Rank(name, n); r != 0 || e != want {
			t.Errorf("Rank(%q, %x): %d, %d; want %d", name, n, r, e, want)
		}
	}
	for _, name := range noNames() {
		for _, n := range append(noNodes(), ha, hx) {
			refused(name, n, api.ErrName)
		}
	}
	for _, n := range noNodes() {
		for _, name := range []string{"", "b", "nobody"} {
			refused(name, n, api.ErrNode)
		}
	}
	answers(t, "Delete", x.Delete(hb2), api.OK)
	for _, n := range []api.Handle{hb2, hc, hy} {
		refused("b", n, api.ErrNode)
		refused("", n, api.ErrNode)
	}
	// Another node has the index now.
	insert(t, x, api.Last, 0, el("b"))
	refused("b", hb2, api.ErrNode)
	holds(t, x)
}

// What an index answers is nobody's but the caller's, spare room too; what it is handed stays as it is, and is not kept.
func TestMemory(t *testing.T) {
	image := abc(t).Doc().Tree().Image()
	x := newIndex(t, image)
	spoil(image)
	y := with(el("n", with(el("m"), "k", "1")), "k", "2")
	insert(t, x, api.Last, 0, y)
	y.Attrs[0], y.Kids[0].Attrs[0], y.Kids[0].Name = api.Attr{Name: "q", Value: "q"}, api.Attr{Name: "q"}, "q"
	holds(t, x)
	tells(t, "Having(q)", x.Having("q"))

	within, _ := x.Within("", ha)
	answered := [][]api.Placed{x.Named("b"), x.Texts(), x.Having("k"), x.Valued("k", "1"), within}
	for _, l := range answered {
		l = l[:cap(l)]
		for i := range l {
			l[i] = api.Placed{Node: 1}
		}
	}
	counts := x.Names()
	counts = counts[:cap(counts)]
	clear(counts)
	holds(t, x)
	// Two answers share nothing.
	a, b := x.Valued("k", "1"), x.Valued("k", "1")
	c := slices.Clone(b)
	clear(a[:cap(a)])
	if !slices.Equal(b, c) {
		t.Error(b)
	}
}

func spoil(x api.Image) {
	for i := range x.Slots {
		clear(x.Slots[i].Attrs)
		clear(x.Slots[i].Kids)
		x.Slots[i] = api.Slot{}
	}
	clear(x.Roots)
}

// What is told stays as it was told, whatever is done meanwhile.
func TestToldStays(t *testing.T) {
	x := abc(t)
	l, within := x.Named("b"), x.Texts()
	was, were := slices.Clone(l), slices.Clone(within)
	answers(t, "Move", x.Move(hb3, api.First, 0), api.OK)
	answers(t, "Delete", x.Delete(ha), api.OK)
	if !slices.Equal(l, was) || !slices.Equal(within, were) {
		t.Error(l, within)
	}
	holds(t, x)
}
