package snapshot_test

import (
	"bytes"
	"encoding/binary"
	"encoding/hex"
	"hash/fnv"
	"slices"
	"strings"
	"testing"
	"time"

	"espalier/api"
	"espalier/snapshot"
	"espalier/tree"
)

func el(name string, kids ...api.Tree) api.Tree {
	return api.Tree{Kind: api.Element, Name: name, Kids: kids}
}

func text(s string) api.Tree { return api.Tree{Kind: api.Text, Text: s} }

// with is an element with attributes: name, value, name, value ..
func with(x api.Tree, l ...string) api.Tree {
	for i := 0; i < len(l); i += 2 {
		x.Attrs = append(x.Attrs, api.Attr{Name: l[i], Value: l[i+1]})
	}
	return x
}

// hd is the handle of an index and a generation, by the words of chapter 3.
func hd(index, gen uint64) api.Handle { return api.Handle(gen*(1<<32) + index) }

func long(n int) string { return strings.Repeat("x", n) }

// chain is so many elements, one in the other.
func chain(n int) api.Tree {
	x := el("c")
	for range n - 1 {
		x = el("c", x)
	}
	return x
}

// wide is an element with texts in it, n nodes in all.
func wide(n int) api.Tree {
	x := el("w")
	for range n - 1 {
		x.Kids = append(x.Kids, text(""))
	}
	return x
}

// attrs is so many attributes, by their names, rising.
func attrs(n int) []api.Attr {
	l := make([]api.Attr, n)
	for i := range l {
		l[i].Name = "k" + string([]byte{'0' + byte(i/10), '0' + byte(i%10)})
	}
	return l
}

// plant is a document of these roots.
func plant(t *testing.T, l ...api.Tree) *tree.Doc {
	t.Helper()
	d := &tree.Doc{}
	for _, x := range l {
		if _, e := d.Insert(api.Last, 0, x); e != api.OK {
			t.Fatalf("Insert: %d", e)
		}
	}
	return d
}

func sameTree(a, b api.Tree) bool {
	return a.Kind == b.Kind && a.Name == b.Name && slices.Equal(a.Attrs, b.Attrs) && a.Text == b.Text && slices.EqualFunc(a.Kids, b.Kids, sameTree)
}

func sameSlot(a, b api.Slot) bool {
	return a.Gen == b.Gen && a.Live == b.Live && a.Kind == b.Kind && a.Name == b.Name && slices.Equal(a.Attrs, b.Attrs) && a.Text == b.Text && a.Parent == b.Parent && slices.Equal(a.Kids, b.Kids)
}

func sameImage(a, b api.Image) bool {
	return slices.EqualFunc(a.Slots, b.Slots, sameSlot) && slices.Equal(a.Roots, b.Roots)
}

func copyImage(x api.Image) api.Image {
	x.Slots, x.Roots = slices.Clone(x.Slots), slices.Clone(x.Roots)
	for i := range x.Slots {
		x.Slots[i].Attrs, x.Slots[i].Kids = slices.Clone(x.Slots[i].Attrs), slices.Clone(x.Slots[i].Kids)
	}
	return x
}

// The bytes by the words of chapter 20, made by another library than the program's.

// num is numbers, one behind the other.
func num(l ...uint64) []byte {
	var b []byte
	for _, n := range l {
		b = binary.AppendUvarint(b, n)
	}
	return b
}

func str(s string) []byte { return append(num(uint64(len(s))), s...) }

func join(l ...[]byte) []byte { return slices.Concat(l...) }

// index is a handle's number.
func index(h api.Handle) uint64 { return uint64(h) % (1 << 32) }

func indexes(l []api.Handle) []byte {
	b := num(uint64(len(l)))
	for _, h := range l {
		b = append(b, num(index(h))...)
	}
	return b
}

func slotBytes(s api.Slot) []byte {
	gen := num(uint64(s.Gen))
	switch {
	case !s.Live:
		return join(gen, []byte{0})
	case s.Kind == api.Text:
		return join(gen, []byte{2}, str(s.Text), num(index(s.Parent)))
	}
	b := join(gen, []byte{1}, str(s.Name), num(uint64(len(s.Attrs))))
	for _, a := range s.Attrs {
		b = join(b, str(a.Name), str(a.Value))
	}
	return join(b, num(index(s.Parent)), indexes(s.Kids))
}

// bodyOf is what stands between the header and the sum.
func bodyOf(x api.Image) []byte {
	b := num(uint64(len(x.Slots)))
	for _, s := range x.Slots {
		b = append(b, slotBytes(s)...)
	}
	return join(b, indexes(x.Roots))
}

// summed is bytes and their sum.
func summed(b []byte) []byte {
	h := fnv.New32a() // the chapter's sum under another name
	h.Write(b)
	return h.Sum(slices.Clip(b))
}

// snap is a snapshot of any body.
func snap(body []byte) []byte { return summed(join([]byte("espalier\x01"), body)) }

// otherSum is bytes of which the last one is another one.
func otherSum(b []byte) []byte {
	b = slices.Clone(b)
	b[len(b)-1] ^= 0x10
	return b
}

func encode(t *testing.T, x api.Image) []byte {
	t.Helper()
	b, e := snapshot.Encode(x)
	if e != api.OK {
		t.Fatalf("Encode: %d", e)
	}
	return b
}

func save(t *testing.T, d *tree.Doc) []byte {
	t.Helper()
	b, e := snapshot.Save(d)
	if e != api.OK {
		t.Fatalf("Save: %d", e)
	}
	return b
}

func load(t *testing.T, b []byte) *tree.Doc {
	t.Helper()
	d, e := snapshot.Load(b)
	if e != api.OK || d == nil {
		t.Fatalf("Load of %s: %v, %d", short(b), d, e)
	}
	return d
}

// decodes: the bytes are that image's, and a document's.
func decodes(t *testing.T, b []byte, want api.Image) {
	t.Helper()
	x, e := snapshot.Decode(b)
	if e != api.OK || !sameImage(x, want) {
		t.Fatalf("Decode of %s: %v, %d; want %v", short(b), x, e, want)
	}
	if d := load(t, b); !sameImage(d.Image(), want) {
		t.Fatalf("Load of %s: %v; want %v", short(b), d.Image(), want)
	}
}

// refused: Decode and Load answer that error, and nothing beside it.
func refused(t *testing.T, what string, b []byte, want api.Errno) {
	t.Helper()
	was := slices.Clone(b)
	x, e := snapshot.Decode(b)
	if e != want || x.Slots != nil || x.Roots != nil {
		t.Errorf("%s: Decode of %s: %v, %d; want %d", what, short(b), x, e, want)
	}
	if d, e := snapshot.Load(b); d != nil || e != want {
		t.Errorf("%s: Load of %s: %v, %d; want %d", what, short(b), d, e, want)
	}
	if !bytes.Equal(b, was) {
		t.Errorf("%s: changed", what)
	}
}

// short is the beginning of what may be long.
func short(b []byte) string { return hex.EncodeToString(b[:min(len(b), 200)]) }

// soon: it takes a time that leaves room for slow machines, but not for what grows without bound.
func soon(t *testing.T, what string, do func()) {
	t.Helper()
	begin := time.Now()
	do()
	if took := time.Since(begin); took > 3*time.Minute {
		t.Errorf("%s took %v", what, took)
	}
}
