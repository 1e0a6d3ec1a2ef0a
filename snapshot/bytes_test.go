package snapshot_test

import (
	"bytes"
	"encoding/hex"
	"hash/fnv"
	"math"
	"strings"
	"testing"

	"espalier/api"
	"espalier/snapshot"
	"espalier/tree"
)

// shape is images and their bodies, by hand.
var shapes = []struct {
	what string
	x    api.Image
	want string
}{
	{"nothing", api.Image{}, "00 00"},
	{"example 2", api.Image{
		Slots: []api.Slot{
			{Gen: 1, Live: true, Kind: api.Element, Name: "a", Kids: []api.Handle{hd(2, 1)}},
			{Gen: 1, Live: true, Kind: api.Text, Text: "x", Parent: hd(1, 1)},
		},
		Roots: []api.Handle{hd(1, 1)},
	}, "02 01 01 0161 00 00 01 02 01 02 0178 01 01 01"},
	{"dead slots alone", api.Image{Slots: []api.Slot{{Gen: 1}, {Gen: 127}, {Gen: 128}, {Gen: math.MaxUint32}}}, "04 01 00 7f 00 8001 00 ffffffff0f 00 00"},
	{"an empty text as root", api.Image{Slots: []api.Slot{{Gen: 300, Live: true, Kind: api.Text}}, Roots: []api.Handle{hd(1, 300)}}, "01 ac02 02 00 00 01 01"},
	{"attributes, and kids that stand ahead", api.Image{
		Slots: []api.Slot{
			{Gen: 2, Live: true, Kind: api.Text, Text: "é", Parent: hd(4, 5)},
			{Gen: 9},
			{Gen: 3, Live: true, Kind: api.Element, Name: "b", Parent: hd(4, 5)},
			{Gen: 5, Live: true, Kind: api.Element, Name: "ab", Attrs: []api.Attr{{Name: "j"}, {Name: "k", Value: "yz"}}, Kids: []api.Handle{hd(3, 3), hd(1, 2)}},
			{Gen: 1 << 31, Live: true, Kind: api.Element, Name: "c"},
		},
		Roots: []api.Handle{hd(5, 1<<31), hd(4, 5)},
	}, "05 02 02 02c3a9 04 09 00 03 01 0162 00 04 00 05 01 026162 02 016a 00 016b 02797a 00 02 03 01 8080808008 01 0163 00 00 00 02 05 04"},
}

// P20.1: the bytes of images, by hand; examples 1 and 2.
func TestShapes(t *testing.T) {
	t.Parallel()
	for _, s := range shapes {
		want, err := hex.DecodeString(hex.EncodeToString([]byte("espalier")) + "01" + strings.ReplaceAll(s.want, " ", ""))
		if err != nil {
			t.Fatal(err)
		}
		h := fnv.New32a()
		h.Write(want)
		want = h.Sum(want)
		if b := encode(t, s.x); !bytes.Equal(b, want) {
			t.Errorf("%s: Encode: %x; want %x", s.what, b, want)
		}
		d, _ := tree.Load(s.x)
		if b := save(t, d); !bytes.Equal(b, want) {
			t.Errorf("%s: Save: %x; want %x", s.what, b, want)
		}
		decodes(t, want, s.x)
	}
	if b := save(t, &tree.Doc{}); len(b) != 15 || !bytes.Equal(b, snap([]byte{0, 0})) {
		t.Errorf("Save of the document without nodes: %x", b)
	}
}

// P20.1: the bytes of any documents are as the chapter's words make them.
func TestBytesOfAny(t *testing.T) {
	t.Parallel()
	for seed := range uint64(300) {
		m := newMaker(seed)
		d := m.doc(int(seed))
		x := d.Image()
		want := snap(bodyOf(x))
		if b := encode(t, x); !bytes.Equal(b, want) {
			t.Fatalf("seed %d: Encode: %x; want %x", seed, b, want)
		}
		if b := save(t, d); !bytes.Equal(b, want) {
			t.Fatalf("seed %d: Save: %x; want %x", seed, b, want)
		}
		decodes(t, want, x)
	}
}

// P20.1: numbers at the edges of their bytes, where they may stand.
func TestGreatNumbers(t *testing.T) {
	t.Parallel()
	for _, n := range []int{126, 127, 128, 129, 300, api.MaxText - 1, api.MaxText} {
		for _, x := range []api.Tree{text(long(n)), with(el("a"), "k", long(n))} {
			d := plant(t, x)
			b := save(t, d)
			if want := snap(bodyOf(d.Image())); !bytes.Equal(b, want) {
				t.Errorf("Save of a text of %d bytes: %s; want %s", n, short(b), short(want))
			}
			decodes(t, b, d.Image())
		}
	}
	for _, n := range []int{127, 128, 129, api.MaxNodes - 1, api.MaxNodes} {
		d := plant(t, wide(n))
		b := save(t, d)
		if want := snap(bodyOf(d.Image())); !bytes.Equal(b, want) {
			t.Errorf("Save of %d nodes: %s; want %s", n, short(b), short(want))
		}
		decodes(t, b, d.Image())
	}
	if b := save(t, plant(t, wide(api.MaxNodes))); !bytes.Equal(b[9:16], []byte{0x80, 0x20, 1, 1, 1, 'w', 0}) {
		t.Errorf("Save: %x", b[9:16])
	}
	for _, g := range gens {
		x := api.Image{Slots: []api.Slot{{Gen: g, Live: true, Kind: api.Element, Name: "a"}, {Gen: g}}, Roots: []api.Handle{hd(1, uint64(g))}}
		b := encode(t, x)
		if want := snap(join(num(2, uint64(g)), []byte{1, 1, 'a', 0, 0, 0}, num(uint64(g)), []byte{0, 1, 1})); !bytes.Equal(b, want) {
			t.Errorf("Encode of a generation %d: %x; want %x", g, b, want)
		}
		decodes(t, b, x)
	}
}

// P20.1: of an image what plays no part is not in the bytes.
func TestWithoutJunk(t *testing.T) {
	t.Parallel()
	d := plant(t, with(el("a", el("b"), text("t"), el("c")), "k", "v"))
	if e := d.Delete(hd(4, 1)); e != api.OK {
		t.Fatal(e)
	}
	want := d.Image()
	x := d.Image()
	x.Slots[0].Text = "\x00"
	x.Slots[1].Text = long(api.MaxText + 1)
	x.Slots[2].Name, x.Slots[2].Attrs, x.Slots[2].Kids = "1", attrs(40), []api.Handle{hd(1, 1), 77}
	x.Slots[3] = api.Slot{Gen: 1, Kind: 7, Name: "1", Attrs: attrs(40), Text: "\x00", Parent: 77, Kids: []api.Handle{77}}
	b := encode(t, x)
	if !bytes.Equal(b, encode(t, want)) || !bytes.Equal(b, snap(bodyOf(want))) {
		t.Errorf("Encode: %x; want %x", b, snap(bodyOf(want)))
	}
	decodes(t, b, want)
}

// P20.1: none and ErrArg, if the document is nil.
func TestSaveNil(t *testing.T) {
	t.Parallel()
	if b, e := snapshot.Save(nil); b != nil || e != api.ErrArg {
		t.Errorf("Save of nil: %x, %d", b, e)
	}
}

// wrongImages is images that can't be. Those that bytes can tell are read, too.
func wrongImages() []struct {
	what  string
	bytes bool
	spoil func(x *api.Image)
} {
	type wrong = struct {
		what  string
		bytes bool
		spoil func(x *api.Image)
	}
	return []wrong{
		{"a generation 0", false, func(x *api.Image) { x.Slots[5].Gen = 0 }},
		{"a kind that is none", false, func(x *api.Image) { x.Slots[3].Kind = 0 }},
		{"another kind", false, func(x *api.Image) { x.Slots[3].Kind = 3 }},
		{"a root's other generation", false, func(x *api.Image) { x.Roots[0] = hd(1, 2) }},
		{"a root of generation 0", false, func(x *api.Image) { x.Roots[0] = 1 }},
		{"a child's other generation", false, func(x *api.Image) { x.Slots[0].Kids[0] = hd(2, 2) }},
		{"a parent's other generation", false, func(x *api.Image) { x.Slots[1].Parent = hd(1, 2) }},
		{"a root 0", false, func(x *api.Image) { x.Roots = append(x.Roots, 0) }},
		{"a child of no slot", false, func(x *api.Image) { x.Slots[1].Kids = []api.Handle{hd(7, 1)} }},
		{"too many slots", false, func(x *api.Image) {
			for len(x.Slots) <= api.MaxNodes {
				x.Slots = append(x.Slots, api.Slot{Gen: 1})
			}
		}},
		{"a long text", false, func(x *api.Image) { x.Slots[2].Text = long(api.MaxText + 1) }},
		{"too many attributes", false, func(x *api.Image) { x.Slots[0].Attrs = attrs(api.MaxAttrs + 1) }},
		{"an element's name", true, func(x *api.Image) { x.Slots[0].Name = "1" }},
		{"an element's empty name", true, func(x *api.Image) { x.Slots[0].Name = "" }},
		{"an element's long name", true, func(x *api.Image) { x.Slots[0].Name = long(api.MaxName + 1) }},
		{"a name as long as a text", true, func(x *api.Image) { x.Slots[0].Name = long(api.MaxText) }},
		{"an attribute's name", true, func(x *api.Image) { x.Slots[0].Attrs[0].Name = "" }},
		{"an attribute's value", true, func(x *api.Image) { x.Slots[0].Attrs[0].Value = "\x00" }},
		{"attributes that fall", true, func(x *api.Image) { x.Slots[0].Attrs = []api.Attr{{Name: "l"}, {Name: "k"}} }},
		{"an attribute twice", true, func(x *api.Image) { x.Slots[0].Attrs = []api.Attr{{Name: "k"}, {Name: "k"}} }},
		{"a wrong text", true, func(x *api.Image) { x.Slots[2].Text = "\xff" }},
		{"a root twice", true, func(x *api.Image) { x.Roots = append(x.Roots, x.Roots[0]) }},
		{"no roots", true, func(x *api.Image) { x.Roots = nil }},
		{"a root that is a child", true, func(x *api.Image) { x.Roots = append(x.Roots, hd(2, 1)) }},
		{"a dead root", true, func(x *api.Image) { x.Roots = append(x.Roots, hd(6, 1)) }},
		{"a root's parent", true, func(x *api.Image) { x.Slots[0].Parent = hd(2, 1) }},
		{"a child's parent 0", true, func(x *api.Image) { x.Slots[1].Parent = 0 }},
		{"a dead parent", true, func(x *api.Image) { x.Slots[1].Parent = hd(6, 1) }},
		{"a text as parent", true, func(x *api.Image) { x.Slots[1].Parent = hd(3, 1) }},
		{"a child twice", true, func(x *api.Image) { x.Slots[0].Kids = append(x.Slots[0].Kids, hd(2, 1)) }},
		{"a child of none", true, func(x *api.Image) { x.Slots[0].Kids = x.Slots[0].Kids[:1] }},
		{"a dead child", true, func(x *api.Image) { x.Slots[1].Kids = []api.Handle{hd(6, 1)} }},
		{"a child of another one", true, func(x *api.Image) { x.Slots[1].Kids = []api.Handle{hd(3, 1)} }},
		{"a dead one that stands", true, func(x *api.Image) { x.Slots[1] = api.Slot{Gen: 1} }},
		{"one that stands nowhere", true, func(x *api.Image) { x.Slots[5] = api.Slot{Gen: 1, Live: true, Kind: api.Text} }},
		{"a node in itself", true, func(x *api.Image) {
			x.Slots[5] = api.Slot{Gen: 1, Live: true, Kind: api.Element, Name: "z", Parent: hd(6, 1), Kids: []api.Handle{hd(6, 1)}}
		}},
		{"a round that is nowhere", true, func(x *api.Image) {
			x.Roots, x.Slots[0].Parent, x.Slots[1].Kids = nil, hd(2, 1), []api.Handle{hd(1, 1)}
		}},
	}
}

// wrongBase is a document's image that wrongImages spoil: <a k="v"><b/>t<c><d/></c></a>, and a dead slot.
func wrongBase(t *testing.T) api.Image {
	t.Helper()
	d := plant(t, with(el("a", el("b"), text("t"), el("c", el("d"))), "k", "v"))
	x := d.Image()
	x.Slots = append(x.Slots, api.Slot{Gen: 1})
	return x
}

// P20.1: none and ErrImage, if the image can't be; nothing is changed.
func TestEncodeErrors(t *testing.T) {
	t.Parallel()
	encode(t, wrongBase(t))
	for _, w := range wrongImages() {
		x := wrongBase(t)
		w.spoil(&x)
		was := copyImage(x)
		if b, e := snapshot.Encode(x); b != nil || e != api.ErrImage {
			t.Errorf("%s: Encode: %x, %d", w.what, b, e)
		}
		if !sameImage(x, was) {
			t.Errorf("%s: changed", w.what)
		}
	}
	for _, n := range []int{api.MaxDepth, api.MaxDepth + 1} {
		b, e := snapshot.Encode(deep(n))
		if n == api.MaxDepth && (e != api.OK || !bytes.Equal(b, snap(bodyOf(deep(n))))) || n > api.MaxDepth && (b != nil || e != api.ErrImage) {
			t.Errorf("Encode of %d, one in the other: %x, %d", n, b, e)
		}
	}
}

// deep is the image of so many elements, one in the other.
func deep(n int) api.Image {
	x := api.Image{Slots: make([]api.Slot, n), Roots: []api.Handle{hd(1, 1)}}
	for i := range x.Slots {
		x.Slots[i] = api.Slot{Gen: 1, Live: true, Kind: api.Element, Name: "c"}
		if i > 0 {
			x.Slots[i].Parent = hd(uint64(i), 1)
			x.Slots[i-1].Kids = []api.Handle{hd(uint64(i+1), 1)}
		}
	}
	return x
}
