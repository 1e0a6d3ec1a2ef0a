package tree_test

import (
	"testing"

	"espalier/api"
	"espalier/tree"
)

// P3.5: of a document without nodes.
func TestZeroDoc(t *testing.T) {
	var d tree.Doc
	all, e := d.All(0)
	if d.Len() != 0 || len(d.Roots()) != 0 || len(d.Forest()) != 0 || len(all) != 0 || e != api.OK {
		t.Error(d.Len(), d.Roots(), d.Forest(), all, e)
	}
	if x := d.Image(); len(x.Slots) != 0 || len(x.Roots) != 0 {
		t.Error(x)
	}
	for _, n := range append(noNodes(), 0) {
		noNode(t, &d, n)
	}
	if c := d.Clone(); c == nil || c.Len() != 0 || len(c.Image().Slots) != 0 {
		t.Error(c)
	}
}

// P3.5: all that is asked of each node of abc.
func TestGet(t *testing.T) {
	d := abc(t)
	a := with(el("a"), api.Attr{Name: "k", Value: "v"})
	for _, c := range []struct {
		n, parent api.Handle
		x         api.Tree
		kids, all []api.Handle
		level     int
	}{
		{ha, 0, a, []api.Handle{hb, hdd}, []api.Handle{ha, hb, hc, ht, hdd}, 0},
		{hb, ha, el("b"), []api.Handle{hc, ht}, []api.Handle{hb, hc, ht}, 1},
		{hc, hb, el("c"), nil, []api.Handle{hc}, 2},
		{ht, hb, text("t"), nil, []api.Handle{ht}, 2},
		{hdd, ha, el("d"), nil, []api.Handle{hdd}, 1},
		{he, 0, el("e"), nil, []api.Handle{he}, 0},
	} {
		if x, e := d.Get(c.n); !same(x, c.x) || e != api.OK {
			t.Errorf("Get(%x): %v, %d", c.n, x, e)
		}
		if p, e := d.Parent(c.n); p != c.parent || e != api.OK {
			t.Errorf("Parent(%x): %x, %d", c.n, p, e)
		}
		if l, e := d.Kids(c.n); !same(l, c.kids) || e != api.OK {
			t.Errorf("Kids(%x): %x, %d", c.n, l, e)
		}
		if l, e := d.Level(c.n); l != c.level || e != api.OK {
			t.Errorf("Level(%x): %d, %d", c.n, l, e)
		}
		if l, e := d.All(c.n); !same(l, c.all) || e != api.OK {
			t.Errorf("All(%x): %x, %d", c.n, l, e)
		}
	}
	if l := d.Roots(); !same(l, []api.Handle{ha, he}) {
		t.Errorf("Roots: %x", l)
	}
	if l, e := d.All(0); !same(l, []api.Handle{ha, hb, hc, ht, hdd, he}) || e != api.OK {
		t.Errorf("All(0): %x, %d", l, e)
	}
	b := el("b", el("c"), text("t"))
	whole := a
	whole.Kids = []api.Tree{b, el("d")}
	for n, want := range map[api.Handle]api.Tree{ha: whole, hb: b, ht: text("t"), he: el("e")} {
		if x, e := d.Subtree(n); !same(x, want) || e != api.OK {
			t.Errorf("Subtree(%x): %v, %d", n, x, e)
		}
	}
	if l := d.Forest(); !same(l, []api.Tree{whole, el("e")}) || d.Len() != 6 {
		t.Errorf("Forest: %v", l)
	}
}

// spoil changes all that can be reached of a tree's lists, spare room too.
func spoil(l []api.Tree) {
	for i := range l {
		spoilAttrs(l[i].Attrs)
		spoil(l[i].Kids)
	}
	for i := range l[:cap(l)] {
		l[:cap(l)][i] = api.Tree{Kind: bad, Name: "spoilt"}
	}
}

func spoilAttrs(l []api.Attr) {
	for i := range l[:cap(l)] {
		l[:cap(l)][i] = api.Attr{Name: "spoilt", Value: "spoilt"}
	}
}

func spoilHandles(l []api.Handle) {
	for i := range l[:cap(l)] {
		l[:cap(l)][i] = 77
	}
}

func spoilImage(x api.Image) {
	for i := range x.Slots {
		spoilAttrs(x.Slots[i].Attrs)
		spoilHandles(x.Slots[i].Kids)
	}
	for i := range x.Slots[:cap(x.Slots)] {
		x.Slots[:cap(x.Slots)][i] = api.Slot{Gen: 9, Name: "spoilt"}
	}
	spoilHandles(x.Roots)
}

// No list of an answer is the document's, and none that was handed in is kept.
func TestMemory(t *testing.T) {
	d := abc(t)
	was := d.Image()
	x, _ := d.Get(ha)
	spoil([]api.Tree{x})
	x, _ = d.Subtree(ha)
	spoil([]api.Tree{x})
	spoil(d.Forest())
	for _, n := range []api.Handle{0, ha, hb, hc} {
		l, _ := d.All(n)
		spoilHandles(l)
		l, _ = d.Kids(n)
		spoilHandles(l)
	}
	spoilHandles(d.Roots())
	spoilImage(d.Image())
	unchanged(t, d, was)

	in := with(el("n", el("m")), attrs(3)...)
	n := insert(t, d, api.Last, 0, in)
	was = d.Image()
	spoil([]api.Tree{in})
	unchanged(t, d, was)
	if x, _ := d.Subtree(n); !same(x, with(el("n", el("m")), attrs(3)...)) {
		t.Errorf("%v", x)
	}

	img := d.Image()
	l := load(t, img)
	spoilImage(img)
	unchanged(t, l, was)
}

// What is handed in is not changed, its spare room included.
func TestArgumentsStay(t *testing.T) {
	room := append(make([]api.Attr, 0, 4), attrs(2)...)
	kids := append(make([]api.Tree, 0, 4), el("k"), text("t"))
	in := api.Tree{Kind: api.Element, Name: "n", Attrs: room, Kids: kids}
	var d tree.Doc
	n := insert(t, &d, api.Last, 0, in)
	d.SetAttr(n, "b", "w")
	d.SetAttr(n, "c", "w")
	d.SetAttr(n, "a00", "w")
	d.Delete(hd(2, 1))
	insert(t, &d, api.First, n, el("z"))
	if !same(in, with(el("n", el("k"), text("t")), attrs(2)...)) || room[:4][2] != (api.Attr{}) || kids[:4][2].Kind != 0 {
		t.Errorf("%v, %v, %v", in, room[:4], kids[:4])
	}
	slots := append(make([]api.Slot, 0, 4), d.Image().Slots...)
	img := api.Image{Slots: slots, Roots: append(make([]api.Handle, 0, 4), n)}
	was := copyImage(img)
	l := load(t, img)
	insert(t, l, api.Last, 0, wide(5))
	insert(t, l, api.First, n, wide(5))
	l.SetName(n, "other")
	l.SetAttr(n, "b", "other")
	l.DropAttr(n, "c")
	l.Delete(hd(2, 2))
	if !same(img, was) || img.Roots[:4][1] != 0 || slots[:4][3].Gen != 0 {
		t.Errorf("%v; was %v", img, was)
	}
}

// Lists of one answer share no memory with one another.
func TestListsApart(t *testing.T) {
	d := abc(t)
	d.SetAttr(hb, "q", "r")
	want := d.Forest()
	got := d.Forest()
	spoilAttrs(got[0].Attrs)
	spoil(got[0].Kids[1:])
	if !same(got[0].Kids[0], want[0].Kids[0]) || !same(got[1], want[1]) {
		t.Errorf("%v", got)
	}
	img, was := d.Image(), d.Image()
	spoilHandles(img.Slots[0].Kids)
	spoilHandles(img.Roots)
	spoilAttrs(img.Slots[0].Attrs)
	if !same(img.Slots[1].Kids, was.Slots[1].Kids) || img.Slots[1].Attrs[0] != was.Slots[1].Attrs[0] {
		t.Errorf("%v", img)
	}
}
