package names_test

import (
	"math"
	"slices"
	"testing"

	"espalier/api"
	"espalier/label"
	"espalier/names"
)

func by[K comparable](t *testing.T, d *label.Doc, key func(t api.Tree) (K, bool)) *names.Lists[K] {
	t.Helper()
	l, e := names.By(d, key)
	if l == nil || e != api.OK {
		t.Fatalf("By: %v, %d", l, e)
	}
	return l
}

// keysAre: the keys in this order, and Len as many.
func keysAre[K comparable](t *testing.T, l *names.Lists[K], want ...K) {
	t.Helper()
	if got := l.Keys(); !slices.Equal(got, want) || l.Len() != len(want) {
		t.Errorf("Keys: %v, %d in all; want %v", got, l.Len(), want)
	}
}

func lengthOfText(t api.Tree) (int, bool) { return len(t.Text), t.Kind == api.Text }

func nameOf(t api.Tree) (string, bool) { return t.Name, t.Kind == api.Element }

// The chapter's second example.
func TestByExample(t *testing.T) {
	x := newIndex(t, api.Image{})
	insert(t, x, api.Last, 0, el("a", el("b"), text("x"), with(el("b"), "k", "1")))
	l := by(t, x.Doc(), lengthOfText)
	keysAre(t, l, 1)
	tells(t, "Of(1)", l.Of(1), hd(3, 1))
}

// P8.4: ErrArg of what is nil.
func TestByNil(t *testing.T) {
	if l, e := names.By[int](nil, lengthOfText); l != nil || e != api.ErrArg {
		t.Error(l, e)
	}
	if l, e := names.By[int](&label.Doc{}, nil); l != nil || e != api.ErrArg {
		t.Error(l, e)
	}
	if l, e := names.By[int](nil, nil); l != nil || e != api.ErrArg {
		t.Error(l, e)
	}
	// A document that is none is told ahead of a key that would panic.
	if l, e := names.By(nil, func(api.Tree) (int, bool) { panic("asked") }); l != nil || e != api.ErrArg {
		t.Error(l, e)
	}
}

// P8.4: of a document without nodes, and of a key that wants none.
func TestByNone(t *testing.T) {
	for _, d := range []*label.Doc{{}, abc(t).Doc()} {
		l := by(t, d, func(x api.Tree) (string, bool) { return x.Name, false })
		keysAre(t, l)
		tells(t, "Of(b)", l.Of("b"))
		tells(t, "Of()", l.Of(""))
	}
	calls := 0
	by(t, &label.Doc{}, func(x api.Tree) (int, bool) { calls++; return 0, true })
	if calls != 0 {
		t.Error(calls)
	}
}

// P8.4: key is called once for each node, in document order, with what Get tells of it.
func TestByCalls(t *testing.T) {
	d := abc(t).Doc()
	answers(t, "Move", d.Move(hb3, api.First, 0), api.OK)
	nodes := d.Tree()
	var got []api.Tree
	by(t, d, func(x api.Tree) (int, bool) {
		got = append(got, x)
		return 0, len(got)%2 == 0
	})
	all, _ := nodes.All(0)
	if len(got) != len(all) {
		t.Fatalf("%d calls of %d nodes", len(got), len(all))
	}
	for i, n := range all {
		want, _ := nodes.Get(n)
		x := got[i]
		if x.Kind != want.Kind || x.Name != want.Name || x.Text != want.Text || len(x.Kids) != 0 || !slices.Equal(x.Attrs, want.Attrs) {
			t.Errorf("call %d: %v; want %v", i, x, want)
		}
	}
}

// P8.4: keys as they came up first; under each its nodes, with their spans.
func TestByKeys(t *testing.T) {
	x := abc(t)
	answers(t, "SetName", x.SetName(hb1, "z"), api.OK)
	l := by(t, x.Doc(), nameOf)
	keysAre(t, l, "a", "z", "b", "c", "d")
	for _, name := range []string{"a", "b", "c", "d", "z"} {
		if got, want := l.Of(name), x.Named(name); !slices.Equal(got, want) {
			t.Errorf("Of(%q): %v; want %v", name, got, want)
		}
	}
	tells(t, "Of(x)", l.Of("x"))
	tells(t, "Of()", l.Of(""))
	kinds := by(t, x.Doc(), func(y api.Tree) (int, bool) { return y.Kind, true })
	keysAre(t, kinds, api.Element, api.Text)
	if got := slices.Concat(kinds.Of(api.Element), kinds.Of(api.Text)); len(got) != len(x.Doc().Spans()) {
		t.Error(got)
	}
	tells(t, "Of(texts)", kinds.Of(api.Text), hx, hy, hz)
	tells(t, "Of(0)", kinds.Of(0))
}

// key2 is a key of several parts.
type key2 struct {
	attr   api.Attr
	counts [2]int
}

// P8.4: keys of structs, arrays, pointers, interfaces.
func TestByKinds(t *testing.T) {
	d := abc(t).Doc()
	l := by(t, d, func(x api.Tree) (key2, bool) {
		if len(x.Attrs) == 0 {
			return key2{}, x.Kind == api.Element
		}
		return key2{x.Attrs[0], [2]int{len(x.Attrs), len(x.Name)}}, true
	})
	keysAre(t, l, key2{api.Attr{Name: "k", Value: "1"}, [2]int{1, 1}}, key2{}, key2{api.Attr{Name: "k", Value: "1"}, [2]int{2, 1}}, key2{api.Attr{Name: "l", Value: "1"}, [2]int{1, 1}}, key2{api.Attr{Name: "k", Value: "2"}, [2]int{1, 1}})
	tells(t, "Of(none)", l.Of(key2{}), hb1, hc)
	tells(t, "Of(k 1 of two)", l.Of(key2{api.Attr{Name: "k", Value: "1"}, [2]int{2, 1}}), hb2)

	one, two := new(int), new(int)
	p := by(t, d, func(x api.Tree) (*int, bool) {
		switch {
		case x.Kind == api.Text:
			return nil, true
		case x.Name == "b":
			return two, true
		}
		return one, true
	})
	keysAre(t, p, one, two, nil)
	tells(t, "Of(nil)", p.Of(nil), hx, hy, hz)
	tells(t, "Of(two)", p.Of(two), hb1, hb2, hb3)
	tells(t, "Of(another)", p.Of(new(int)))

	a := by(t, d, func(x api.Tree) (any, bool) {
		if x.Kind == api.Text {
			return len(x.Text), true
		}
		return x.Name, x.Name == "b"
	})
	keysAre(t, a, any("b"), any(1))
	tells(t, "Of(1)", a.Of(1), hx, hy, hz)
	tells(t, "Of(int64 1)", a.Of(int64(1)))
	tells(t, "Of(nil)", a.Of(nil))
}

// P8.4: a key that is not the same as itself: Of tells none of it, Keys and Len count it each time; zeros of either sign are one.
func TestByNoNumber(t *testing.T) {
	d := abc(t).Doc()
	keys := []float64{math.NaN(), math.Copysign(0, -1), math.NaN(), 1, 0, math.NaN(), math.Inf(1), 0, math.NaN()}
	i := -1
	l := by(t, d, func(api.Tree) (float64, bool) { i++; return keys[i], true })
	got := l.Keys()
	if l.Len() != 7 || len(got) != 7 {
		t.Fatal(got, l.Len())
	}
	for i, want := range []float64{math.NaN(), math.Copysign(0, -1), math.NaN(), 1, math.NaN(), math.Inf(1), math.NaN()} {
		if math.Float64bits(got[i]) != math.Float64bits(want) {
			t.Errorf("key %d: %v; want %v", i, got[i], want)
		}
	}
	tells(t, "Of(no number)", l.Of(math.NaN()))
	tells(t, "Of(0)", l.Of(0), hb1, hc, hz)
	tells(t, "Of(-0)", l.Of(math.Copysign(0, -1)), hb1, hc, hz)
	tells(t, "Of(infinite)", l.Of(math.Inf(1)), hdd)

	i = -1
	s := by(t, d, func(x api.Tree) ([2]any, bool) { i++; return [2]any{x.Name, keys[i]}, x.Name == "b" })
	if s.Len() != 3 {
		t.Error(s.Keys())
	}
	tells(t, "Of(b, -0)", s.Of([2]any{"b", 0.0}), hb1)
	tells(t, "Of(b, 1)", s.Of([2]any{"b", 1.0}), hb2)
	tells(t, "Of(b, no number)", s.Of([2]any{"b", math.NaN()}))
}

// P8.4: a key that panics, however it does, at whichever node; the document is as it was.
func TestByPanics(t *testing.T) {
	x := abc(t)
	was := x.Doc().Tree().Image()
	var none []int
	for _, why := range []func(){
		func() { panic("why") },
		func() { panic(nil) },
		func() { panic(api.ErrNode) },
		func() { none[0]++ },
	} {
		for at := range 9 {
			calls := 0
			l, e := names.By(x.Doc(), func(api.Tree) (int, bool) {
				if calls++; calls > at {
					why()
				}
				return calls, true
			})
			if l != nil || e != api.ErrPanic || calls != at+1 {
				t.Errorf("%v, %d; %d calls", l, e, calls)
			}
		}
		// Whoever is not asked does not panic.
		if _, e := names.By(&label.Doc{}, func(api.Tree) (int, bool) { why(); return 0, true }); e != api.OK {
			t.Error(e)
		}
	}
	if !sameImage(x.Doc().Tree().Image(), was) {
		t.Error(x.Doc().Tree().Image())
	}
	holds(t, x)
}

// What can't be compared, though its type can, is no key: By tells it as a panic, unless it is not wanted; Of has none of it.
func TestByNotCompared(t *testing.T) {
	d := abc(t).Doc()
	for _, k := range []any{[]int{}, map[int]int{}, func() {}, [1]any{[]int{}}, struct{ x any }{[]int{}}} {
		if l, e := names.By(d, func(api.Tree) (any, bool) { return k, true }); l != nil || e != api.ErrPanic {
			t.Error(l, e)
		}
		l := by(t, d, func(x api.Tree) (any, bool) {
			if x.Kind == api.Text {
				return k, false
			}
			return x.Name, true
		})
		keysAre(t, l, any("a"), any("b"), any("c"), any("d"))
		tells(t, "Of", l.Of(k))
		tells(t, "Of(b)", l.Of("b"), hb1, hb2, hb3)
		nobody := by(t, &label.Doc{}, func(api.Tree) (any, bool) { return 0, true })
		tells(t, "Of", nobody.Of(k))
	}
}

// P8.4: the lists are of the document as it is when By is called: what is done to it later, or by key, changes nothing in them.
func TestByStays(t *testing.T) {
	x := abc(t)
	was := x.Named("b")
	l := by(t, x.Doc(), nameOf)
	for range 300 {
		insert(t, x, api.First, 0, el("b"))
	}
	answers(t, "SetName", x.SetName(hb1, "n"), api.OK)
	answers(t, "Delete", x.Delete(ha), api.OK)
	if got := l.Of("b"); !slices.Equal(got, was) {
		t.Errorf("%v; want %v", got, was)
	}
	keysAre(t, l, "a", "b", "c", "d")

	x = abc(t)
	was = x.Doc().Spans()
	calls := 0
	k := by(t, x.Doc(), func(y api.Tree) (string, bool) {
		calls++
		x.Delete(x.Doc().Spans()[0].Node)
		insert(t, x, api.First, 0, el("new"))
		return y.Name, true
	})
	keysAre(t, k, "a", "b", "", "c", "d")
	if got := slices.Concat(k.Of("a"), k.Of("")); calls != 9 || !slices.Equal(handles(got), []api.Handle{ha, hx, hy, hz}) || got[0] != was[0] {
		t.Errorf("%v; %d calls", got, calls)
	}
	holds(t, x)
}

// What key is handed is its own; what the lists answer is the caller's.
func TestByMemory(t *testing.T) {
	x := abc(t)
	was := x.Doc().Tree().Image()
	l := by(t, x.Doc(), func(y api.Tree) (string, bool) {
		clear(y.Attrs[:cap(y.Attrs)])
		return y.Name, true
	})
	if !sameImage(x.Doc().Tree().Image(), was) {
		t.Error("key changed the document")
	}
	holds(t, x)
	keys, nodes, again := l.Keys(), l.Of("b"), l.Of("b")
	clear(keys[:cap(keys)])
	clear(nodes[:cap(nodes)])
	keysAre(t, l, "a", "b", "", "c", "d")
	tells(t, "Of(b)", l.Of("b"), hb1, hb2, hb3)
	tells(t, "Of(b)", again, hb1, hb2, hb3)
}

// P8.4: a document that is full, each node under a key of its own, and all under one.
func TestByFull(t *testing.T) {
	x := newIndex(t, api.Image{})
	insert(t, x, api.Last, 0, wide(api.MaxNodes))
	i := 0
	l := by(t, x.Doc(), func(api.Tree) (int, bool) { i--; return i, true })
	if l.Len() != api.MaxNodes || l.Keys()[api.MaxNodes-1] != -api.MaxNodes {
		t.Error(l.Len())
	}
	all := x.Doc().Spans()
	for i, p := range all {
		if got := l.Of(-1 - i); len(got) != 1 || got[0] != p {
			t.Fatal(i, got)
		}
	}
	one := by(t, x.Doc(), func(api.Tree) (struct{}, bool) { return struct{}{}, true })
	if got := one.Of(struct{}{}); one.Len() != 1 || !slices.Equal(got, all) {
		t.Error(one.Len(), len(got))
	}
}
