package snapshot_test

import (
	"bytes"
	"slices"
	"testing"

	"espalier/api"
	"espalier/snapshot"
)

// full is a tree of as many nodes as there may be, as deep as may be, with attributes.
func full() api.Tree {
	x := el("a")
	for range api.MaxNodes/(api.MaxDepth-1) - 1 {
		k := chain(api.MaxDepth - 1)
		k.Attrs = attrs(api.MaxAttrs)
		x.Kids = append(x.Kids, k)
	}
	for range api.MaxNodes - 1 - len(x.Kids)*(api.MaxDepth-1) {
		x.Kids = append(x.Kids, text(long(40)))
	}
	return x
}

// P20.1, P20.2, P20.3: a full document there and back.
func TestFull(t *testing.T) {
	t.Parallel()
	soon(t, "a full document", func() {
		d := plant(t, full())
		if d.Len() != api.MaxNodes {
			t.Fatalf("%d nodes", d.Len())
		}
		b := save(t, d)
		if !bytes.Equal(b, snap(bodyOf(d.Image()))) {
			t.Error("other bytes")
		}
		decodes(t, b, d.Image())
		l := load(t, b)
		if _, e := l.Insert(api.Last, 0, text("")); e != api.ErrTooMany {
			t.Errorf("Insert: %d", e)
		}
	})
}

// P20.1: a document with texts as great as may be.
func TestGreatTexts(t *testing.T) {
	t.Parallel()
	soon(t, "great texts", func() {
		x := el("a")
		for range 200 {
			k := el("b", text(long(api.MaxText)))
			k.Attrs = attrs(api.MaxAttrs)
			k.Attrs[7].Value = long(api.MaxText)
			x.Kids = append(x.Kids, k)
		}
		d := plant(t, x)
		b := save(t, d)
		if !bytes.Equal(b, snap(bodyOf(d.Image()))) {
			t.Error("other bytes")
		}
		decodes(t, b, d.Image())
	})
}

// P20.2: bytes that are made up, however many, end soon, in an error.
func TestMadeUp(t *testing.T) {
	t.Parallel()
	kids := join(num(1), []byte{1}, str("a"), num(0, 0), num(api.MaxNodes), slices.Repeat(num(2), api.MaxNodes))
	soon(t, "Decode", func() {
		refused(t, "all kids of all", snap(join(num(api.MaxNodes), slices.Repeat(kids, api.MaxNodes/4))), api.ErrShort)
		refused(t, "all kids of all, whole", snap(join(num(api.MaxNodes), slices.Repeat(kids, api.MaxNodes), num(0))), api.ErrImage)
		refused(t, "many bytes behind", snap(join(num(0, 0), make([]byte, 1<<24))), api.ErrMore)
		refused(t, "a number without end", snap(slices.Repeat([]byte{0x80}, 1<<24)), api.ErrBytes)
		refused(t, "another header", bytes.Repeat([]byte("espalier"), 1<<20), api.ErrBytes)
		refused(t, "all attributes of all", snap(join(num(api.MaxNodes), slices.Repeat(join(num(1), []byte{1}, str("a"), num(api.MaxAttrs), make([]byte, 2*api.MaxAttrs), num(0, 0)), api.MaxNodes), num(0))), api.ErrImage)
	})
}

// P20.1, P20.2: as many dead slots as may be, and one more.
func TestSlots(t *testing.T) {
	t.Parallel()
	x := api.Image{Slots: slices.Repeat([]api.Slot{{Gen: 1<<32 - 1}}, api.MaxNodes)}
	b := encode(t, x)
	decodes(t, b, x)
	d := load(t, b)
	if _, e := d.Insert(api.Last, 0, text("")); e != api.ErrTooMany {
		t.Errorf("Insert: %d", e)
	}
	x.Slots = append(x.Slots, api.Slot{Gen: 1})
	if b, e := snapshot.Encode(x); b != nil || e != api.ErrImage {
		t.Errorf("Encode: %x, %d", b, e)
	}
	refused(t, "a slot too many", snap(bodyOf(x)), api.ErrBytes)
}
