package oplog_test

import (
	"bytes"
	"slices"
	"testing"

	"espalier/api"
	"espalier/label"
	"espalier/oplog"
)

// roomy is bytes with spare room, which is filled.
func roomy(b []byte) []byte {
	all := append(slices.Clone(b), bytes.Repeat([]byte{77}, 40)...)
	return all[:len(b)]
}

// spare is the spare room.
func spare(b []byte) []byte { return b[len(b):cap(b)] }

// filled is what is still in the spare room that roomy made.
func filled(b []byte) bool {
	return len(spare(b)) >= 40 && !slices.ContainsFunc(spare(b)[:40], func(x byte) bool { return x != 77 })
}

// P19.1: bytes are neither changed nor kept, their spare room included.
func TestBytesStay(t *testing.T) {
	t.Parallel()
	m := newMaker(9)
	for range 100 {
		l := m.ops(3)
		whole := encodes(t, l)
		b := roomy(whole)
		op, n, _ := oplog.Decode(b)
		all, _, _ := oplog.Read(b)
		oplog.Sum(b)
		if !bytes.Equal(b, whole) || !filled(b) {
			t.Fatalf("%x; it was %x", b, whole)
		}
		for i := range b {
			b[i] = 'q'
		}
		if !sameOp(op, lean(l[0])) || n != len(frameOf(l[0])) || !sameOps(all, leans(l)) {
			t.Fatalf("%v, %v; want %v", op, all, l)
		}
	}
}

// spoilTree fills all lists of a tree, and their spare room, with something else.
func spoilTree(x api.Tree) {
	for _, k := range x.Kids {
		spoilTree(k)
	}
	for i := range x.Kids[:cap(x.Kids)] {
		x.Kids[:cap(x.Kids)][i] = text("spoilt")
	}
	for i := range x.Attrs[:cap(x.Attrs)] {
		x.Attrs[:cap(x.Attrs)][i] = api.Attr{Name: "spoilt"}
	}
}

// each tells all nodes of a tree.
func each(x *api.Tree, tell func(x *api.Tree)) {
	tell(x)
	for i := range x.Kids {
		each(&x.Kids[i], tell)
	}
}

// P19.1: answers are new memory: none is shared with an argument, another answer, or another list of the same answer.
func TestAnswersAreNew(t *testing.T) {
	t.Parallel()
	m := newMaker(10)
	for range 100 {
		op := insert(api.Last, 0, m.tree(12))
		want := lean(copyOps([]api.Op{op})[0])
		b, again := encode(t, op), encode(t, op)
		for i := range again[:cap(again)] {
			again[:cap(again)][i] = 'q'
		}
		spoilTree(op.Tree)
		decodes(t, b, want, len(b))
		one, _, _ := oplog.Decode(b)
		l, _, _ := oplog.Read(append(slices.Clone(b), b...))
		spoilTree(l[0].Tree)
		if !sameOp(one, want) || !sameOp(l[1], want) {
			t.Fatalf("%v, %v; want %v", one, l[1], want)
		}
		var size int
		each(&one.Tree, func(*api.Tree) { size++ })
		for n := range size {
			apart(t, b, want, n)
		}
	}
}

// apart: what is written into the lists of the node of a number, and into their spare room, is in no other node.
func apart(t *testing.T, b []byte, want api.Op, number int) {
	t.Helper()
	op, _, _ := oplog.Decode(b)
	want = copyOps([]api.Op{want})[0]
	at := 0
	each(&op.Tree, func(x *api.Tree) {
		if at == number {
			for i := range x.Attrs[:cap(x.Attrs)] {
				x.Attrs[:cap(x.Attrs)][i].Name = "spoilt"
			}
			for i := len(x.Kids); i < cap(x.Kids); i++ {
				x.Kids[:cap(x.Kids)][i].Name = "spoilt"
			}
		}
		at++
	})
	at = 0
	each(&want.Tree, func(x *api.Tree) {
		if at == number {
			for i := range x.Attrs {
				x.Attrs[i].Name = "spoilt"
			}
		}
		at++
	})
	if !sameOp(op, want) {
		t.Fatalf("%v; want %v", op, want)
	}
}

// P19.2: edits are neither changed nor kept.
func TestEditsStay(t *testing.T) {
	t.Parallel()
	for seed := range uint64(20) {
		m := newMaker(300 + seed)
		d, twin := &label.Doc{}, &label.Doc{}
		l := taken(m, d, 60)
		was := copyOps(l)
		if n, e := oplog.Replay(twin, l); n != len(l) || e != api.OK || !sameOps(l, was) {
			t.Fatalf("Replay: %d of %d, %d", n, len(l), e)
		}
		for _, op := range l {
			spoilTree(op.Tree)
		}
		if !sameImage(image(d), image(twin)) {
			t.Fatal("another document")
		}
		again := &label.Doc{}
		oplog.Replay(again, was)
		if !sameImage(image(d), image(again)) {
			t.Fatal("a document keeps what it was handed")
		}
	}
}
