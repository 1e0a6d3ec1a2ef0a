package label_test

import (
	"slices"
	"strings"
	"testing"

	"espalier/api"
	"espalier/label"
	"espalier/tree"
)

func el(name string, kids ...api.Tree) api.Tree {
	return api.Tree{Kind: api.Element, Name: name, Kids: kids}
}

func text(s string) api.Tree { return api.Tree{Kind: api.Text, Text: s} }

// hd is the handle of an index and a generation, by the document's words.
func hd(index, gen uint64) api.Handle { return api.Handle(gen*(1<<32) + index) }

// chain is so many elements, one in the other.
func chain(n int) api.Tree {
	x := el("c")
	for range n - 1 {
		x = el("c", x)
	}
	return x
}

// wide is an element with so many texts in it, n nodes in all.
func wide(n int) api.Tree {
	x := el("w")
	for range n - 1 {
		x.Kids = append(x.Kids, text(""))
	}
	return x
}

func long(n int) string { return strings.Repeat("x", n) }

func size(x api.Tree) int {
	n := 1
	for _, k := range x.Kids {
		n += size(k)
	}
	return n
}

func sameSlot(a, b api.Slot) bool {
	return a.Gen == b.Gen && a.Live == b.Live && a.Kind == b.Kind && a.Name == b.Name && slices.Equal(a.Attrs, b.Attrs) && a.Text == b.Text && a.Parent == b.Parent && slices.Equal(a.Kids, b.Kids)
}

func sameImage(a, b api.Image) bool {
	return slices.EqualFunc(a.Slots, b.Slots, sameSlot) && slices.Equal(a.Roots, b.Roots)
}

func copyImage(x api.Image) api.Image {
	x.Slots = slices.Clone(x.Slots)
	for i, s := range x.Slots {
		x.Slots[i].Attrs = slices.Clone(s.Attrs)
		x.Slots[i].Kids = slices.Clone(s.Kids)
	}
	x.Roots = slices.Clone(x.Roots)
	return x
}

// state is all that a document answers when it is not edited.
type state struct {
	image        api.Image
	spans        []api.Placed
	tags, writes uint64
}

func stateOf(d *label.Doc) state {
	return state{d.Tree().Image(), d.Spans(), d.Tags(), d.Writes()}
}

func unchanged(t *testing.T, d *label.Doc, was state) {
	t.Helper()
	now := stateOf(d)
	if !sameImage(now.image, was.image) || !slices.Equal(now.spans, was.spans) || now.tags != was.tags || now.writes != was.writes {
		t.Errorf("changed: spans %v, %d tags, %d writes; were %v, %d, %d", now.spans, now.tags, now.writes, was.spans, was.tags, was.writes)
	}
}

func insert(t *testing.T, d *label.Doc, where int, at api.Handle, x api.Tree) api.Handle {
	t.Helper()
	n, e := d.Insert(where, at, x)
	if e != api.OK || n == 0 {
		t.Fatalf("Insert(%d, %x): %x, %d", where, at, n, e)
	}
	return n
}

func answers(t *testing.T, what string, got, want api.Errno) {
	t.Helper()
	if got != want {
		t.Errorf("%s: %d; want %d", what, got, want)
	}
}

func load(t *testing.T, x api.Image) *label.Doc {
	t.Helper()
	d, e := label.Load(x)
	if e != api.OK || d == nil {
		t.Fatalf("Load: %v, %d", d, e)
	}
	return d
}

func span(t *testing.T, d *label.Doc, n api.Handle) api.Span {
	t.Helper()
	s, e := d.Span(n)
	if e != api.OK {
		t.Fatalf("Span(%x): %d", n, e)
	}
	return s
}

// abc is <a><b><c/>t</b><d/></a><e/>; its handles are of the indexes 1 to 6.
func abc(t *testing.T) *label.Doc {
	t.Helper()
	d := &label.Doc{}
	insert(t, d, api.Last, 0, el("a", el("b", el("c"), text("t")), el("d")))
	insert(t, d, api.Last, 0, el("e"))
	return d
}

// The handles of abc.
const (
	ha = api.Handle(1<<32 + 1 + iota)
	hb
	hc
	ht
	hdd
	he
)

// noNodes: handles of no node of abc.
func noNodes() []api.Handle {
	return []api.Handle{0, 1, 2, hd(1, 2), hd(0, 1), hd(7, 1), hd(6, 2), hd(api.MaxNodes, 1), hd(api.MaxNodes+1, 1), hd(1<<31, 1), hd(1<<32-1, 1), hd(0, 1<<32-1), hd(1<<32-1, 1<<32-1)}
}

// around: by labels alone, a lies around b.
func around(a, b api.Span) bool { return a.Begin < b.Begin && b.End < a.End }

// holds: what the chapter says of spans (5.1, P5.2, P5.6, P5.7), held against the tree.
func holds(t *testing.T, d *label.Doc) {
	t.Helper()
	nodes := d.Tree()
	l := d.Spans()
	all, _ := nodes.All(0)
	if len(l) != len(all) {
		t.Fatalf("%d spans of %d nodes", len(l), len(all))
	}
	begins := map[uint64]int{}
	ends := map[uint64]int{}
	var open []api.Placed
	for i, p := range l {
		if p.Node != all[i] {
			t.Fatalf("span %d: of %x; want %x", i, p.Node, all[i])
		}
		begins[p.Span.Begin]++
		ends[p.Span.End]++
		open = openAround(t, open, p)
		parent := api.Handle(0)
		if len(open) > 0 {
			parent = open[len(open)-1].Node
		}
		if want, _ := nodes.Parent(p.Node); parent != want {
			t.Fatalf("%x: by labels it lies in %x; in the tree in %x", p.Node, parent, want)
		}
		if level, _ := nodes.Level(p.Node); p.Span.Level != level || level != len(open) {
			t.Fatalf("%x: level %d, in the tree %d, by labels %d", p.Node, p.Span.Level, level, len(open))
		}
		open = append(open, p)
		asked(t, d, p)
	}
	apart(t, begins, ends, len(l))
	if w, n := d.Writes(), d.Tags(); w < n || w > 8*62*n {
		t.Fatalf("%d writes of %d tags", w, n)
	}
}

// openAround is which of the open ones lie around p, in whose turn, in document order, it is; the others must have ended.
func openAround(t *testing.T, open []api.Placed, p api.Placed) []api.Placed {
	t.Helper()
	s := p.Span
	if s.Begin < 1 || s.End > 1<<62-1 || s.Begin >= s.End {
		t.Fatalf("span %v", s)
	}
	if len(open) > 0 && open[len(open)-1].Span.Begin >= s.Begin {
		t.Fatalf("%v begins behind %v", open[len(open)-1].Span, s)
	}
	for len(open) > 0 && open[len(open)-1].Span.End < s.Begin {
		open = open[:len(open)-1]
	}
	for _, o := range open {
		if !around(o.Span, s) {
			t.Fatalf("%v and %v cross", o.Span, s)
		}
	}
	return open
}

// asked: Span and Find answer of a node what Spans does.
func asked(t *testing.T, d *label.Doc, p api.Placed) {
	t.Helper()
	if s, e := d.Span(p.Node); s != p.Span || e != api.OK {
		t.Fatalf("Span(%x): %v, %d; in Spans %v", p.Node, s, e, p.Span)
	}
	if n, e := d.Find(p.Span.Begin); n != p.Node || e != api.OK {
		t.Fatalf("Find(%d): %x, %d; want %x", p.Span.Begin, n, e, p.Node)
	}
	if n, e := d.Find(p.Span.End); n != 0 || e != api.ErrNode {
		t.Fatalf("Find of the end %d: %x, %d", p.Span.End, n, e)
	}
}

// apart: of n nodes all labels differ.
func apart(t *testing.T, begins, ends map[uint64]int, n int) {
	t.Helper()
	both := len(begins)
	for x := range ends {
		if begins[x] == 0 {
			both++
		}
	}
	if both != 2*n {
		t.Fatalf("%d labels of %d nodes", both, n)
	}
}

// pair is a document and a tree to which the same is done.
type pair struct {
	t    *testing.T
	d    *label.Doc
	tree *tree.Doc
	tags uint64
}

func newPair(t *testing.T) *pair { return &pair{t: t, d: &label.Doc{}, tree: &tree.Doc{}} }

// insert does it to both: the tags of a subtree that is put in are counted.
func (p *pair) insert(where int, at api.Handle, x api.Tree) (api.Handle, api.Errno) {
	p.t.Helper()
	n, e := p.d.Insert(where, at, x)
	want, why := p.tree.Insert(where, at, x)
	if n != want || e != why {
		p.t.Fatalf("Insert(%d, %x): %x, %d; tree's: %x, %d", where, at, n, e, want, why)
	}
	if e == api.OK {
		p.tags += 2 * uint64(size(x))
	}
	return n, e
}

// move does it to both: the tags of a subtree that is moved are counted.
func (p *pair) move(n api.Handle, where int, at api.Handle) api.Errno {
	p.t.Helper()
	e := p.d.Move(n, where, at)
	if why := p.tree.Move(n, where, at); e != why {
		p.t.Fatalf("Move(%x, %d, %x): %d; tree's: %d", n, where, at, e, why)
	}
	if e == api.OK {
		all, _ := p.tree.All(n)
		p.tags += 2 * uint64(len(all))
	}
	return e
}

func (p *pair) delete(n api.Handle) api.Errno {
	p.t.Helper()
	e := p.d.Delete(n)
	if why := p.tree.Delete(n); e != why {
		p.t.Fatalf("Delete(%x): %d; tree's: %d", n, e, why)
	}
	return e
}

// same: the document is what tree makes of the same edits, with as many tags as were counted.
func (p *pair) same() {
	p.t.Helper()
	if got, want := p.d.Tree().Image(), p.tree.Image(); !sameImage(got, want) {
		p.t.Fatalf("document %v; tree's %v", got, want)
	}
	if got := p.d.Tags(); got != p.tags {
		p.t.Fatalf("Tags: %d; want %d", got, p.tags)
	}
}
