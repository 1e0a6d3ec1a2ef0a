package oplog_test

import (
	"slices"
	"testing"

	"espalier/api"
	"espalier/label"
	"espalier/oplog"
)

// full is a tree of as many nodes as there may be, as deep as may be, with attributes.
func full() api.Tree {
	x := el("a")
	for range api.MaxNodes/(api.MaxDepth-1) - 1 {
		x.Kids = append(x.Kids, chain(api.MaxDepth-1))
	}
	for range api.MaxNodes - 1 - len(x.Kids)*(api.MaxDepth-1) {
		x.Kids = append(x.Kids, text(long(40)))
	}
	for i := range x.Kids {
		if x.Kids[i].Kind == api.Element {
			x.Kids[i].Attrs = manyAttrs(api.MaxAttrs).Attrs
		}
	}
	return x
}

// P19.1, P19.2: an edit as great as may be, there and back, and done.
func TestFull(t *testing.T) {
	t.Parallel()
	soon(t, "a full edit", func() {
		op := insert(api.Last, 0, full())
		b := encode(t, op)
		decodes(t, b, op, len(b))
		d := &label.Doc{}
		does(t, d, op, hd(1, 1), api.OK)
		if n := d.Tree().Len(); n != api.MaxNodes {
			t.Errorf("%d nodes", n)
		}
		does(t, d, insert(api.Last, 0, text("")), 0, api.ErrTooMany)
	})
}

// P19.1: bytes that say that they are very deep, or very many, end soon, in an error.
func TestMadeUp(t *testing.T) {
	t.Parallel()
	deep := slices.Repeat([]byte{1, 0, 1, 'c', 0, 0, 1}, 1<<23)
	many := join([]byte{1}, str("c"), []byte{0}, num(2, 65535), slices.Repeat(join([]byte{1}, str("c"), []byte{0}, num(2, 65535), slices.Repeat(treeBytes(text("")), 65535)), 100))
	attrs := join([]byte{1}, str("c"), []byte{0}, num(2, 65535), slices.Repeat(join([]byte{1}, str("c"), []byte{255}, slices.Repeat(join(str(""), str("")), 255), num(2, 0)), 10000))
	soon(t, "Decode", func() {
		for _, x := range [][]byte{deep, many, attrs} {
			undecoded(t, framed(join(ahead, x)), api.ErrOp)
		}
	})
}

// P19.1: Read of very many frames takes no more than their number.
func TestManyFrames(t *testing.T) {
	t.Parallel()
	soon(t, "Read", func() {
		b := slices.Repeat(frameOf(remove(hd(1, 1))), 1<<18)
		l, n, e := oplog.Read(append(b, 0))
		if len(l) != 1<<18 || n != len(b) || e != api.ErrShort {
			t.Errorf("Read: %d, %d, %d", len(l), n, e)
		}
	})
}
