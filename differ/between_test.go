package differ_test

import (
	"math"
	"slices"
	"testing"

	"espalier/api"
	"espalier/differ"
	"espalier/tree"
)

// P18.1: any documents, whose handles may be common, whatever lies in what.
func TestBetweenAny(t *testing.T) {
	t.Parallel()
	for seed := range uint64(6000) {
		m := newMaker(seed)
		gens := m.gens(1 + m.IntN(14))
		between(t, load(t, m.image(gens, 8)), load(t, m.image(gens, 8)))
	}
}

// P18.1: documents behind edits.
func TestBetweenEdited(t *testing.T) {
	t.Parallel()
	for seed := range uint64(3000) {
		m := newMaker(seed)
		base := m.edited(m.doc(m.IntN(30)), m.IntN(10))
		a, b := m.edited(base, m.IntN(6)), m.edited(base, m.IntN(12))
		between(t, a, b)
		between(t, b, a)
		between(t, base, b)
	}
}

// P18.1: documents as deep as they may be: what is moved down has to make way where it has too much in it.
func TestBetweenDeep(t *testing.T) {
	t.Parallel()
	for seed := range uint64(300) {
		m := newMaker(seed)
		gens := m.gens(100 + m.IntN(60))
		between(t, load(t, m.deep(gens)), load(t, m.deep(gens)))
	}
}

// deep is a document of elements, each in one of the deepest ones.
func (m maker) deep(gens []uint32) api.Image {
	x := api.Image{Slots: make([]api.Slot, len(gens))}
	var line []int // the one that was put in last, and those around it
	for _, i := range m.Perm(len(gens)) {
		if m.IntN(10) == 0 || len(line) == api.MaxDepth {
			line = line[:m.IntN(len(line)+1)]
		}
		x.Slots[i] = api.Slot{Gen: gens[i], Live: true, Kind: api.Element, Name: pick(m, []string{"a", "b"})}
		if m.IntN(20) == 0 {
			x.Slots[i].Gen++
		}
		if n := len(line); n > 0 {
			j := line[n-1]
			x.Slots[i].Parent = hd(uint64(j+1), uint64(x.Slots[j].Gen))
			x.Slots[j].Kids = append(x.Slots[j].Kids, hd(uint64(i+1), uint64(x.Slots[i].Gen)))
		}
		line = append(line, i)
	}
	x.Roots = roots(x)
	return x
}

// slot is a live slot of an element, given once.
func slot(name string, parent api.Handle, kids ...api.Handle) api.Slot {
	return api.Slot{Gen: 1, Live: true, Kind: api.Element, Name: name, Parent: parent, Kids: kids}
}

// chained is a document of one chain of nodes of those indexes, from the root down.
func chained(t *testing.T, indexes []uint64) *tree.Doc {
	t.Helper()
	x := api.Image{Slots: make([]api.Slot, slices.Max(indexes))}
	for i := range x.Slots {
		x.Slots[i].Gen = 1
	}
	parent := api.Handle(0)
	for i, n := range indexes {
		x.Slots[n-1] = slot("c", parent)
		if i+1 < len(indexes) {
			x.Slots[n-1].Kids = []api.Handle{hd(indexes[i+1], 1)}
		}
		parent = hd(n, 1)
	}
	x.Roots = []api.Handle{hd(indexes[0], 1)}
	return load(t, x)
}

// P18.1: a chain as deep as may be, turned about, put under another one, or half of it taken out.
func TestBetweenChains(t *testing.T) {
	var down, other, odd []uint64
	for i := range uint64(api.MaxDepth) {
		down = append(down, i+1)
		other = append(other, api.MaxDepth-i/2)
		if i%2 == 0 {
			odd = append(odd, i+1)
			other[i] = i/2 + 1
		}
	}
	up := slices.Clone(down)
	slices.Reverse(up)
	for _, a := range [][]uint64{down, up, other, odd} {
		for _, b := range [][]uint64{down, up, other, odd} {
			between(t, chained(t, a), chained(t, b))
		}
	}
}

// P18.1: a chain whose first node comes to lie at the bottom of another one, and what was in it beside that.
func TestBetweenMakesWay(t *testing.T) {
	a := plant(t, chain(api.MaxDepth), chain(api.MaxDepth-1))
	b := a.Clone()
	top, second, bottom := hd(1, 1), hd(2, 1), hd(2*api.MaxDepth-1, 1)
	for _, e := range []api.Errno{
		b.Move(second, api.Last, 0),
		b.Move(top, api.Last, bottom),
		b.SetAttr(top, "k", "v"),
	} {
		if e != api.OK {
			t.Fatal(e)
		}
	}
	between(t, a, b)
	between(t, b, a)
}

// P18.1: a handle that both have is of no common node, if it is of two kinds.
func TestBetweenOfTwoKinds(t *testing.T) {
	a := load(t, api.Image{Slots: []api.Slot{slot("a", 0, hd(2, 1)), slot("b", hd(1, 1))}, Roots: []api.Handle{hd(1, 1)}})
	b := load(t, api.Image{Slots: []api.Slot{{Gen: 1, Live: true, Kind: api.Text, Text: "x"}, slot("b", 0)}, Roots: []api.Handle{hd(2, 1), hd(1, 1)}})
	between(t, a, b)
	between(t, b, a)
}

// P18.1: no edits, if the forests are the same and what is common stands at its place; of what is not common the handles play no part.
func TestBetweenNone(t *testing.T) {
	m := newMaker(1)
	for range 200 {
		f := m.forest(m.IntN(20))
		a, b := plant(t, f...), rehandled(t, f)
		for _, x := range [][2]*tree.Doc{{a, a}, {a, a.Clone()}, {a, b}, {b, a}} {
			if l := between(t, x[0], x[1]); len(l) > 0 {
				t.Fatalf("%d edits where there is nothing to do", len(l))
			}
		}
	}
	if l := between(t, &tree.Doc{}, &tree.Doc{}); len(l) > 0 {
		t.Errorf("%d edits of documents without nodes", len(l))
	}
}

// P18.1: edits, though the forests are the same: two that are alike stand in each other's place.
func TestBetweenTwins(t *testing.T) {
	a := plant(t, el("a", el("b"), el("b"), text("x")), text(""), text(""))
	b := a.Clone()
	b.Move(hd(3, 1), api.First, hd(1, 1))
	b.Move(hd(5, 1), api.Last, 0)
	if l := between(t, a, b); len(l) != 2 {
		t.Errorf("%d edits; want 2", len(l))
	}
}

// P18.1: attributes: as many as may be, in the place of as many others; and those that stay.
func TestBetweenAttrs(t *testing.T) {
	a, b := el("a"), el("a")
	for i := range api.MaxAttrs {
		s := string([]byte{byte('a' + i/16), byte('a' + i%16)})
		a = with(a, "a"+s, "1")
		b = with(b, "b"+s, "1")
	}
	between(t, plant(t, a), plant(t, b))
	half := el("a")
	half.Attrs = slices.Concat(a.Attrs[:8], b.Attrs[:24])
	between(t, plant(t, a), plant(t, half))
	half.Attrs[3].Value = ""
	if l := between(t, plant(t, half), plant(t, a)); len(l) != 24+24+1 {
		t.Errorf("%d edits; want 49", len(l))
	}
}

// P18.1: nil is no document.
func TestBetweenNil(t *testing.T) {
	d := plant(t, el("a"))
	for _, x := range [][2]*tree.Doc{{nil, d}, {d, nil}, {nil, nil}} {
		if l, e := differ.Between(x[0], x[1]); len(l) != 0 || e != api.ErrArg {
			t.Errorf("Between of nil: %v, %d", l, e)
		}
	}
}

// worn is a document of these slots given that often, of which the first so many live.
func worn(t *testing.T, slots, live int, gen uint32) *tree.Doc {
	t.Helper()
	x := api.Image{Slots: make([]api.Slot, slots)}
	for i := range x.Slots {
		x.Slots[i].Gen = gen
		if i < live {
			x.Slots[i] = slot("a", 0)
			x.Slots[i].Gen = gen
			x.Roots = append(x.Roots, hd(uint64(i+1), uint64(gen)))
		}
	}
	return load(t, x)
}

// P18.1: where indexes are worn, there may be too few for what is put in; up to 2^31 times given they are enough.
func TestBetweenWorn(t *testing.T) {
	full := plant(t, flat(api.MaxNodes, el("b"))...)
	between(t, worn(t, api.MaxNodes, 0, 1<<31), full)
	between(t, worn(t, api.MaxNodes, api.MaxNodes, 1<<31), full)
	for _, live := range []int{0, 1} {
		a := worn(t, 100, live, math.MaxUint32)
		was := a.Image()
		if l, e := differ.Between(a, full); len(l) != 0 || e != api.ErrTooMany {
			t.Errorf("%d edits, %d; want ErrTooMany", len(l), e)
		}
		if !sameImage(a.Image(), was) {
			t.Error("a document was changed")
		}
		between(t, a, plant(t, flat(api.MaxNodes-100, el("b"))...))
	}
	within := worn(t, 1, 1, math.MaxUint32)
	if _, e := within.Insert(api.Last, 0, el("e", el("f"))); e != api.OK {
		t.Fatal(e)
	}
	for _, x := range flat(api.MaxNodes-3, el("b")) {
		within.Insert(api.Last, hd(1, math.MaxUint32), x)
	}
	if l, e := differ.Between(worn(t, 100, 1, math.MaxUint32), within); within.Len() != api.MaxNodes || len(l) != 0 || e != api.ErrTooMany {
		t.Errorf("within a node: %d edits, %d; want ErrTooMany", len(l), e)
	}
}

// Nothing of an answer is shared: neither with a document, nor with another list of it.
func TestBetweenMemory(t *testing.T) {
	x := with(el("a", with(el("b", text("x")), "k", "1"), with(el("c"), "k", "2")), "k", "3")
	a, b := plant(t, x), rehandled(t, []api.Tree{x, x, el("d", x)})
	was := b.Image()
	l := between(t, a, b)
	want, _ := differ.Between(a, b)
	spoilt := 0
	for i := range l {
		spoilt += spoil(&l[i].Tree)
	}
	_ = append(l, api.Op{Kind: 99})
	again, e := differ.Between(a, b)
	if spoilt == 0 || e != api.OK || !slices.EqualFunc(want, again, sameOp) || !sameImage(b.Image(), was) {
		t.Errorf("what was answered is shared: %s", plain(b.Forest()))
	}
}

// spoil writes over all lists of a tree, their spare room included: how many had something.
func spoil(x *api.Tree) int {
	n := 0
	for i := range x.Kids {
		n += spoil(&x.Kids[i])
	}
	attrs, kids := x.Attrs[:cap(x.Attrs)], x.Kids[:cap(x.Kids)]
	for i := range attrs {
		attrs[i] = api.Attr{Name: "spoilt"}
	}
	for i := range kids {
		kids[i] = api.Tree{Kind: 99}
	}
	return n + min(1, len(attrs)+len(kids))
}
