package snapshot_test

import (
	"bytes"
	"slices"
	"testing"

	"espalier/api"
	"espalier/snapshot"
)

// roomy is bytes with spare room, which is filled.
func roomy(b []byte) []byte {
	all := append(slices.Clone(b), bytes.Repeat([]byte{77}, 40)...)
	return all[:len(b)]
}

// filled is whether what roomy put into the spare room is still there.
func filled(b []byte) bool {
	return !slices.ContainsFunc(b[len(b):len(b)+40], func(x byte) bool { return x != 77 })
}

// P20.2: bytes are neither changed nor kept, their spare room included, and what stands in it plays no part.
func TestBytesStay(t *testing.T) {
	t.Parallel()
	for seed := range uint64(60) {
		m := newMaker(9000 + seed)
		x := m.doc(30).Image()
		whole := encode(t, x)
		b := roomy(whole)
		got, e := snapshot.Decode(b)
		d := load(t, b)
		if e != api.OK || !bytes.Equal(b, whole) || !filled(b) {
			t.Fatalf("%x; it was %x", b, whole)
		}
		for i := range b {
			b[i] = 'q'
		}
		if !sameImage(got, x) || !sameImage(d.Image(), x) {
			t.Fatalf("%v; want %v", got, x)
		}
		for n := range whole {
			cut := whole[:n:len(whole)]
			if _, e := snapshot.Decode(cut); e != api.ErrShort {
				t.Fatalf("Decode of %x: %d", cut, e)
			}
		}
	}
}

// fill writes into all lists of an image, and into their spare room.
func fill(x api.Image) {
	for i := range x.Slots {
		s := x.Slots[i]
		for k := range s.Attrs[:cap(s.Attrs)] {
			s.Attrs[:cap(s.Attrs)][k] = api.Attr{Name: "spoilt"}
		}
		fillHandles(s.Kids)
	}
	for i := range x.Slots[:cap(x.Slots)] {
		x.Slots[:cap(x.Slots)][i] = api.Slot{Gen: 99}
	}
	fillHandles(x.Roots)
}

func fillHandles(l []api.Handle) {
	for i := range l[:cap(l)] {
		l[:cap(l)][i] = 99
	}
}

// P20.1: an image is neither changed nor kept; answers are new memory.
func TestImagesStay(t *testing.T) {
	t.Parallel()
	for seed := range uint64(60) {
		m := newMaker(9500 + seed)
		d := m.doc(30)
		x := d.Image()
		want := copyImage(x)
		b, again := encode(t, x), encode(t, x)
		saved := save(t, d)
		if !sameImage(x, want) || !sameImage(d.Image(), want) {
			t.Fatal("changed")
		}
		fill(x)
		for i := range again[:cap(again)] {
			again[:cap(again)][i] = 'q'
		}
		if !bytes.Equal(b, snap(bodyOf(want))) || !bytes.Equal(saved, b) {
			t.Fatalf("%x; want %x", b, snap(bodyOf(want)))
		}
		one, _ := snapshot.Decode(b)
		two, _ := snapshot.Decode(b)
		l, k := load(t, b), load(t, b)
		fill(two)
		m.grow(k, 20)
		if !sameImage(one, want) || !sameImage(l.Image(), want) || !bytes.Equal(save(t, l), b) {
			t.Fatal("answers share memory")
		}
	}
}

// P20.2: no two lists of an image share memory, spare room included.
func TestListsApart(t *testing.T) {
	t.Parallel()
	for seed := range uint64(30) {
		want := newMaker(9700 + seed).doc(40).Image()
		b := encode(t, want)
		for i := range want.Slots {
			x, _ := snapshot.Decode(b)
			l, k := x.Slots[i].Attrs, x.Slots[i].Kids
			for n := range l[:cap(l)] {
				l[:cap(l)][n] = api.Attr{Name: "spoilt"}
			}
			fillHandles(k)
			x.Slots[i] = want.Slots[i]
			if !sameImage(x, want) {
				t.Fatalf("seed %d: the lists of slot %d are others', too", seed, i)
			}
		}
		x, _ := snapshot.Decode(b)
		fillHandles(x.Roots)
		x.Roots = want.Roots
		if !sameImage(x, want) {
			t.Fatalf("seed %d: the roots are others', too", seed)
		}
	}
}

// P20.3: a loaded document and the saved one know nothing of one another.
func TestApart(t *testing.T) {
	t.Parallel()
	for seed := range uint64(30) {
		m := newMaker(9800 + seed)
		d := m.doc(30)
		was := d.Image()
		b := save(t, d)
		l := load(t, b)
		m.grow(l, 30)
		if !sameImage(d.Image(), was) {
			t.Fatal("the saved one is changed")
		}
		l = load(t, b)
		m.grow(d, 30)
		if !sameImage(l.Image(), was) {
			t.Fatal("the loaded one is changed")
		}
	}
}
