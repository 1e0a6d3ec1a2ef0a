package tree_test

import (
	"slices"
	"strings"
	"testing"

	"espalier/api"
	"espalier/tree"
)

const bad = 99 // no kind of node

func el(name string, kids ...api.Tree) api.Tree {
	return api.Tree{Kind: api.Element, Name: name, Kids: kids}
}

func with(x api.Tree, attrs ...api.Attr) api.Tree {
	x.Attrs = attrs
	return x
}

func text(s string) api.Tree { return api.Tree{Kind: api.Text, Text: s} }

// hd is the handle of an index and a generation, by the document's words.
func hd(index, gen uint64) api.Handle { return api.Handle(gen*(1<<32) + index) }

// chain is so many nodes, one in the other; the innermost is inner.
func chain(n int, inner api.Tree) api.Tree {
	for range n - 1 {
		inner = el("c", inner)
	}
	return inner
}

// wide is an element with so many texts in it, n nodes in all.
func wide(n int) api.Tree {
	x := el("w")
	for range n - 1 {
		x.Kids = append(x.Kids, text(""))
	}
	return x
}

// attrs is so many attributes, their names rising.
func attrs(n int) []api.Attr {
	var l []api.Attr
	for i := range n {
		l = append(l, api.Attr{Name: "a" + string(rune('0'+i/10)) + string(rune('0'+i%10)), Value: "v"})
	}
	return l
}

func long(n int) string { return strings.Repeat("x", n) }

func insert(t *testing.T, d *tree.Doc, where int, at api.Handle, x api.Tree) api.Handle {
	t.Helper()
	n, e := d.Insert(where, at, x)
	if e != api.OK || n == 0 {
		t.Fatalf("Insert(%d, %x): %x, %d", where, at, n, e)
	}
	return n
}

// refused: Insert answers 0 and an error, and changes nothing.
func refused(t *testing.T, d *tree.Doc, where int, at api.Handle, x api.Tree, want api.Errno) {
	t.Helper()
	was := d.Image()
	if n, e := d.Insert(where, at, x); n != 0 || e != want {
		t.Errorf("Insert(%d, %x): %x, %d; want 0, %d", where, at, n, e, want)
	}
	unchanged(t, d, was)
}

func unchanged(t *testing.T, d *tree.Doc, was api.Image) {
	t.Helper()
	if got := d.Image(); !same(got, was) {
		t.Errorf("changed: %v; was %v", got, was)
	}
}

// answers: a call answered so.
func answers(t *testing.T, what string, got, want api.Errno) {
	t.Helper()
	if got != want {
		t.Errorf("%s: %d; want %d", what, got, want)
	}
}

// same holds two answers against each other; nil and empty lists are alike.
func same(a, b any) bool {
	switch x := a.(type) {
	case api.Tree:
		return sameTree(x, b.(api.Tree))
	case []api.Tree:
		return slices.EqualFunc(x, b.([]api.Tree), sameTree)
	case api.Image:
		y := b.(api.Image)
		return slices.EqualFunc(x.Slots, y.Slots, sameSlot) && slices.Equal(x.Roots, y.Roots)
	case []api.Handle:
		return slices.Equal(x, b.([]api.Handle))
	}
	panic("not held against each other")
}

func sameTree(a, b api.Tree) bool {
	return a.Kind == b.Kind && a.Name == b.Name && slices.Equal(a.Attrs, b.Attrs) && a.Text == b.Text && slices.EqualFunc(a.Kids, b.Kids, sameTree)
}

func sameSlot(a, b api.Slot) bool {
	return a.Gen == b.Gen && a.Live == b.Live && a.Kind == b.Kind && a.Name == b.Name && slices.Equal(a.Attrs, b.Attrs) && a.Text == b.Text && a.Parent == b.Parent && slices.Equal(a.Kids, b.Kids)
}

// copyTree is a tree in memory of its own.
func copyTree(x api.Tree) api.Tree {
	x.Attrs = slices.Clone(x.Attrs)
	x.Kids = slices.Clone(x.Kids)
	for i, k := range x.Kids {
		x.Kids[i] = copyTree(k)
	}
	return x
}

// copyImage is an image in memory of its own.
func copyImage(x api.Image) api.Image {
	x.Slots = slices.Clone(x.Slots)
	for i, s := range x.Slots {
		x.Slots[i].Attrs = slices.Clone(s.Attrs)
		x.Slots[i].Kids = slices.Clone(s.Kids)
	}
	x.Roots = slices.Clone(x.Roots)
	return x
}

// load is the document of an image that must be one.
func load(t *testing.T, x api.Image) *tree.Doc {
	t.Helper()
	d, e := tree.Load(x)
	if e != api.OK || d == nil {
		t.Fatalf("Load: %v, %d", d, e)
	}
	return d
}

// abc is <a k="v"><b><c/>t</b><d/></a><e/>; its handles are of the indexes 1 to 6.
func abc(t *testing.T) *tree.Doc {
	t.Helper()
	d := &tree.Doc{}
	insert(t, d, api.Last, 0, with(el("a", el("b", el("c"), text("t")), el("d")), api.Attr{Name: "k", Value: "v"}))
	insert(t, d, api.Last, 0, el("e"))
	return d
}

// The handles of abc.
var ha, hb, hc, ht, hdd, he = hd(1, 1), hd(2, 1), hd(3, 1), hd(4, 1), hd(5, 1), hd(6, 1)

// noNodes: handles of no node of abc.
func noNodes() []api.Handle {
	return []api.Handle{1, 2, hd(1, 0), hd(1, 2), hd(0, 1), hd(7, 1), hd(6, 2), hd(api.MaxNodes, 1), hd(api.MaxNodes+1, 1), hd(1<<31, 1), hd(1<<32-1, 1), hd(0, 1<<32-1), hd(1<<32-1, 1<<32-1)}
}

// shape is a forest's names and texts, nested.
func shape(d *tree.Doc) string {
	var b strings.Builder
	var put func(l []api.Tree)
	put = func(l []api.Tree) {
		for _, x := range l {
			if x.Kind == api.Text {
				b.WriteString("'" + x.Text + "'")
				continue
			}
			b.WriteString(x.Name + "(")
			put(x.Kids)
			b.WriteString(")")
		}
	}
	put(d.Forest())
	return b.String()
}
