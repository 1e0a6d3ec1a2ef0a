package names_test

import (
	"slices"
	"testing"

	"espalier/api"
	"espalier/names"
)

// anew: the lists are those of an index that is made anew, but for the numbers of the labels.
func anew(t *testing.T, x *names.Index) {
	t.Helper()
	y := newIndex(t, x.Doc().Tree().Image())
	same := func(what string, a, b []api.Placed) {
		t.Helper()
		level := func(p, q api.Placed) bool { return p.Node == q.Node && p.Span.Level == q.Span.Level }
		if !slices.EqualFunc(a, b, level) {
			t.Fatalf("%s: %v; anew %v", what, a, b)
		}
	}
	if a, b := x.Names(), y.Names(); !slices.Equal(a, b) {
		t.Fatalf("Names: %v; anew %v", a, b)
	}
	same("Texts", x.Texts(), y.Texts())
	elements, attrs, values := see(y.Doc()).words()
	for _, name := range each(elements, "nobody") {
		same("Named", x.Named(name), y.Named(name))
	}
	for _, attr := range each(attrs, "nobody") {
		same("Having", x.Having(attr), y.Having(attr))
		for _, value := range each(values) {
			same("Valued", x.Valued(attr, value), y.Valued(attr, value))
		}
	}
}

// P8.5, P8.6, P8.7: scripts of all edits; behind each one the lists are those of the document.
func TestScripts(t *testing.T) {
	for seed := range uint64(25) {
		s := newScript(dice(seed + 100))
		x := newIndex(t, api.Image{})
		for range 60 {
			edit(x, s.op(x.Doc().Tree()))
			holds(t, x)
			anew(t, x)
		}
		if x.Doc().Tree().Len() == 0 {
			t.Error("nothing was shown")
		}
	}
}

// P8.5: an edit of each kind, one by one, and which lists it changes.
func TestEdits(t *testing.T) {
	x := abc(t)
	answers(t, "SetName", x.SetName(hb2, "c"), api.OK)
	tells(t, "Named(b)", x.Named("b"), hb1, hb3)
	tells(t, "Named(c)", x.Named("c"), hb2, hc)
	answers(t, "SetName to what it is", x.SetName(hc, "c"), api.OK)
	tells(t, "Named(c)", x.Named("c"), hb2, hc)
	answers(t, "SetName of the last one", x.SetName(ha, "z"), api.OK)
	tells(t, "Named(a)", x.Named("a"))
	tells(t, "Named(z)", x.Named("z"), ha)
	holds(t, x)

	answers(t, "SetAttr", x.SetAttr(hc, "k", "1"), api.OK)
	tells(t, "Valued(k, 1)", x.Valued("k", "1"), ha, hb2, hc)
	answers(t, "SetAttr", x.SetAttr(hb2, "k", "2"), api.OK)
	tells(t, "Having(k)", x.Having("k"), ha, hb2, hc, hb3)
	tells(t, "Valued(k, 1)", x.Valued("k", "1"), ha, hc)
	tells(t, "Valued(k, 2)", x.Valued("k", "2"), hb2, hb3)
	answers(t, "DropAttr", x.DropAttr(hb3, "k"), api.OK)
	tells(t, "Having(k)", x.Having("k"), ha, hb2, hc)
	answers(t, "DropAttr again", x.DropAttr(hb3, "k"), api.ErrNone)
	holds(t, x)

	answers(t, "SetText", x.SetText(hy, "b"), api.OK)
	tells(t, "Texts", x.Texts(), hx, hy, hz)
	answers(t, "Move", x.Move(hb2, api.After, hz), api.OK)
	tells(t, "Texts", x.Texts(), hx, hz, hy)
	tells(t, "Named(c)", x.Named("c"), hb2, hc)
	tells(t, "Having(l)", x.Having("l"), hdd, hb2)
	holds(t, x)

	answers(t, "Move into another one", x.Move(ha, api.Last, hc), api.OK)
	tells(t, "Having(k)", x.Having("k"), hb2, hc, ha)
	holds(t, x)
	answers(t, "Delete", x.Delete(hc), api.OK)
	tells(t, "Texts", x.Texts(), hz)
	tells(t, "Having(k)", x.Having("k"), hb2)
	if l := x.Names(); !slices.Equal(l, []api.Named{{Name: "b", N: 1}, {Name: "c", N: 1}}) {
		t.Error(l)
	}
	holds(t, x)
	anew(t, x)
}

// P8.5: a node that comes where one was that is no more has another handle, and lists of its own.
func TestIndexesGivenAgain(t *testing.T) {
	x := newIndex(t, api.Image{})
	for i := range uint64(50) {
		n := insert(t, x, api.Last, 0, with(el("a", el("b"), text("t")), "k", "v"))
		if n != hd(1, i+1) {
			t.Fatalf("%x", n)
		}
		tells(t, "Named(a)", x.Named("a"), n)
		tells(t, "Named(b)", x.Named("b"), hd(2, i+1))
		answers(t, "Delete", x.Delete(n), api.OK)
		if len(x.Names()) != 0 || len(x.Texts()) != 0 || len(x.Having("k")) != 0 {
			t.Fatal(x.Names())
		}
	}
}

// P8.5: one gap into which nodes come until many others have other labels: what is told goes by the labels as they are then.
func TestRelabelled(t *testing.T) {
	x := newIndex(t, api.Image{})
	insert(t, x, api.Last, 0, with(el("r", el("a", text("")), el("b"), with(el("c", el("d")), "k", "v")), "k", "v"))
	spot := hd(4, 1)
	others := 0
	for i := range 1500 {
		was := x.Doc().Spans()
		where := []int{api.Before, api.After}[i/7%2]
		n := insert(t, x, where, spot, with(el("n"), "k", "v"))
		if i%3 == 0 {
			answers(t, "Move", x.Move(hd(6, 1), where, spot), api.OK)
		}
		if i%2 == 0 {
			answers(t, "Delete", x.Delete(n), api.OK)
		}
		now := map[api.Handle]api.Span{}
		for _, p := range x.Doc().Spans() {
			now[p.Node] = p.Span
		}
		for _, p := range was {
			if s, ok := now[p.Node]; ok && s != p.Span && p.Node != hd(6, 1) {
				others++
			}
		}
		if i%100 == 0 || i < 20 {
			listsHold(t, x, see(x.Doc()))
		}
	}
	if others == 0 {
		t.Error("no label became another one: nothing was shown")
	}
	listsHold(t, x, see(x.Doc()))
	namesHold(t, x, see(x.Doc()))
	anew(t, x)
}

// P8.5: a document that is full, with all attributes that fit in a list; then all of it moved, and taken away.
func TestFull(t *testing.T) {
	x := newIndex(t, api.Image{})
	r := insert(t, x, api.Last, 0, wide(api.MaxNodes/2))
	for range api.MaxNodes / 2 {
		insert(t, x, api.First, r, with(el("n"), "k", "v"))
	}
	if n, e := x.Insert(api.First, r, el("n")); n != 0 || e != api.ErrTooMany {
		t.Errorf("%x, %d", n, e)
	}
	s := see(x.Doc())
	listsHold(t, x, s)
	namesHold(t, x, s)
	last := s.all[len(s.all)-1].Node
	if n, e := x.Rank("", last); n != api.MaxNodes-1 || e != api.OK {
		t.Error(n, e)
	}
	if l, e := x.Within("", r); len(l) != api.MaxNodes-1 || e != api.OK {
		t.Error(len(l), e)
	}
	answers(t, "Move", x.Move(last, api.First, 0), api.OK)
	answers(t, "Move", x.Move(r, api.Last, 0), api.OK)
	answers(t, "Move", x.Move(r, api.First, last), api.OK)
	listsHold(t, x, see(x.Doc()))
	answers(t, "Delete", x.Delete(last), api.OK)
	if len(x.Names()) != 0 || len(x.Having("k")) != 0 {
		t.Error(x.Names())
	}
}

// P8.6: each element is in Named of its Name, at the place that Rank tells; Names counts just the elements.
func TestAtItsRank(t *testing.T) {
	for seed := range uint64(10) {
		s := newScript(dice(seed + 200))
		x := newIndex(t, api.Image{})
		for range 80 {
			edit(x, s.op(x.Doc().Tree()))
		}
		seen := see(x.Doc())
		elements := 0
		for _, p := range seen.all {
			y := seen.nodes[p.Node]
			if y.Kind != api.Element {
				continue
			}
			elements++
			at, e := x.Rank(y.Name, p.Node)
			if l := x.Named(y.Name); e != api.OK || at >= len(l) || l[at] != p {
				t.Fatalf("%v: Rank %d, %d; Named %v", p, at, e, l)
			}
		}
		counted := 0
		for _, n := range x.Names() {
			counted += n.N
		}
		if counted != elements || elements == 0 {
			t.Errorf("%d counted of %d elements", counted, elements)
		}
	}
}
