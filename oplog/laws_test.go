package oplog_test

import (
	"bytes"
	"slices"
	"testing"

	"espalier/api"
	"espalier/label"
	"espalier/oplog"
)

func leans(l []api.Op) []api.Op {
	l = slices.Clone(l)
	for i, op := range l {
		l[i] = lean(op)
	}
	return l
}

func encodes(t *testing.T, l []api.Op) []byte {
	t.Helper()
	var b []byte
	for _, op := range l {
		b = append(b, encode(t, op)...)
	}
	return b
}

// P19.3: there and back, alone and one behind the other.
func TestThereAndBack(t *testing.T) {
	t.Parallel()
	m := newMaker(5)
	for range 300 {
		l := m.ops(m.IntN(12))
		var b []byte
		for _, op := range l {
			f := encode(t, op)
			decodes(t, f, lean(op), len(f))
			b = append(b, f...)
		}
		reads(t, b, leans(l), len(b), api.OK)
		back, _, _ := oplog.Read(b)
		if again := encodes(t, back); !bytes.Equal(again, b) {
			t.Fatalf("%x; want %x", again, b)
		}
	}
}

// P19.4: of frames that are cut off anywhere Read tells those that are whole.
func TestTorn(t *testing.T) {
	t.Parallel()
	m := newMaker(6)
	for range 40 {
		l := m.ops(1 + m.IntN(6))
		b := encodes(t, l)
		whole, end := 0, 0
		for n := range len(b) + 1 {
			if whole < len(l) && n == end+len(frameOf(l[whole])) {
				end, whole = n, whole+1
			}
			why := api.ErrShort
			if n == end {
				why = api.OK
			}
			reads(t, b[:n], leans(l[:whole]), end, why)
			reads(t, slices.Clip(slices.Clone(b[:n])), leans(l[:whole]), end, why)
		}
		if whole != len(l) {
			t.Fatalf("%d frames of %d are whole", whole, len(l))
		}
	}
}

// P19.4: with any one byte of a frame, behind its first 4, changed into another one Decode answers ErrSum.
func TestChanged(t *testing.T) {
	t.Parallel()
	b := encode(t, insert(api.Last, 0, with(el("a", text("x"), el("b")), "k", "v")))
	for i := 4; i < len(b); i++ {
		for x := 1; x < 256; x++ {
			b[i] ^= byte(x)
			undecoded(t, b, api.ErrSum)
			b[i] ^= byte(x)
		}
	}
	m := newMaker(7)
	for range 300 {
		l := m.ops(3)
		b := encodes(t, l)
		first, two := len(frameOf(l[0])), len(frameOf(l[0]))+len(frameOf(l[1]))
		for i := first + 4; i < two; i++ {
			b[i] ^= byte(1 + m.IntN(255))
			undecoded(t, b[first:], api.ErrSum)
			reads(t, b, leans(l[:1]), first, api.ErrSum)
			b = encodes(t, l)
		}
	}
}

// taken is what a document takes of many edits, one behind the other.
func taken(m maker, d *label.Doc, n int) []api.Op {
	var l []api.Op
	for range n {
		op := m.edit(d)
		if _, e := oplog.Do(d, op); e == api.OK {
			l = append(l, op)
		}
	}
	return l
}

// P19.5: the edits that one document took make the same of another one of the same image, also as they were read again.
func TestOnceMore(t *testing.T) {
	t.Parallel()
	for seed := range uint64(40) {
		m := newMaker(200 + seed)
		d := &label.Doc{}
		taken(m, d, int(seed)*3)
		was := image(d)
		l := taken(m, d, 120)
		back, _, e := oplog.Read(encodes(t, l))
		if e != api.OK {
			t.Fatal(e)
		}
		for _, edits := range [][]api.Op{l, back} {
			twin := load(t, was)
			if n, e := oplog.Replay(twin, edits); n != len(l) || e != api.OK {
				t.Fatalf("seed %d: Replay: %d of %d, %d", seed, n, len(l), e)
			}
			if !sameImage(image(twin), image(d)) {
				t.Fatalf("seed %d: another document", seed)
			}
		}
	}
}

// P19.5: the same handles, one by one.
func TestSameHandles(t *testing.T) {
	t.Parallel()
	m := newMaker(8)
	d, twin := &label.Doc{}, &label.Doc{}
	for range 400 {
		op := m.edit(d)
		h, e := oplog.Do(d, op)
		if e != api.OK {
			continue
		}
		again, _, _ := oplog.Decode(encode(t, op))
		if g, e := oplog.Do(twin, again); g != h || e != api.OK {
			t.Fatalf("Do of %v: %x, %d; want %x", again, g, e, h)
		}
	}
}
