package snapshot_test

import (
	"bytes"
	"testing"

	"espalier/api"
	"espalier/label"
	"espalier/markup"
	"espalier/oplog"
	"espalier/snapshot"
	"espalier/tree"
)

// P20.3: Decode of Encode is the image, Encode of Decode the same bytes.
func TestThereAndBack(t *testing.T) {
	t.Parallel()
	for seed := range uint64(200) {
		d := newMaker(2000 + seed).doc(int(seed))
		x := d.Image()
		b := encode(t, x)
		decodes(t, b, x)
		back, _ := snapshot.Decode(b)
		if again := encode(t, back); !bytes.Equal(again, b) {
			t.Fatalf("seed %d: %x; want %x", seed, again, b)
		}
		if again := save(t, load(t, save(t, d))); !bytes.Equal(again, b) {
			t.Fatalf("seed %d: saved again %x; want %x", seed, again, b)
		}
	}
}

// P20.3: a loaded document goes on as the saved one: with the same answers to each edit, and the same image.
func TestGoesOn(t *testing.T) {
	t.Parallel()
	for seed := range uint64(60) {
		m := newMaker(3000 + seed)
		d := m.doc(int(seed) * 3)
		l := load(t, save(t, d))
		for range 80 {
			op := m.edit(d)
			n, e := do(d, op)
			if h, f := do(l, op); h != n || f != e {
				t.Fatalf("seed %d: %v: %x, %d; want %x, %d", seed, op, h, f, n, e)
			}
		}
		if !sameImage(l.Image(), d.Image()) || l.Len() != d.Len() {
			t.Fatalf("seed %d: another document", seed)
		}
	}
}

// P20.3: an index that is worn stays so; one that is not is given again.
func TestWornStays(t *testing.T) {
	t.Parallel()
	x := api.Image{Slots: []api.Slot{{Gen: 1<<32 - 1}, {Gen: 1<<32 - 2}, {Gen: 7}}}
	d := load(t, encode(t, x))
	for _, want := range []api.Handle{hd(2, 1<<32-1), hd(3, 8), hd(4, 1)} {
		if n, e := d.Insert(api.Last, 0, text("")); n != want || e != api.OK {
			t.Errorf("Insert: %x, %d; want %x", n, e, want)
		}
	}
	if e := d.Delete(hd(2, 1<<32-1)); e != api.OK {
		t.Error(e)
	}
	if n, e := load(t, save(t, d)).Insert(api.Last, 0, text("")); n != hd(5, 1) || e != api.OK {
		t.Errorf("Insert: %x, %d", n, e)
	}
}

// P20.4: a snapshot of which one byte is changed is refused, whichever it is, and to whatever.
func TestChanged(t *testing.T) {
	t.Parallel()
	for _, s := range shapes {
		b := encode(t, s.x)
		for i := range b {
			for x := 1; x < 256; x++ {
				b[i] ^= byte(x)
				spoilt(t, b, i)
				b[i] ^= byte(x)
			}
		}
	}
	for seed := range uint64(40) {
		m := newMaker(4000 + seed)
		b := save(t, m.doc(20))
		for i := range b {
			was := b[i]
			b[i] ^= byte(1 + m.IntN(255))
			spoilt(t, b, i)
			b[i] = was
		}
	}
}

// spoilt: bytes of which the one at a place is another one are refused, with an error that fits the place.
func spoilt(t *testing.T, b []byte, at int) {
	t.Helper()
	_, e := snapshot.Decode(b)
	d, f := snapshot.Load(b)
	if e == api.OK || e == api.ErrImage || f != e || d != nil {
		t.Fatalf("%x, changed at %d: %d; %v, %d", b, at, e, d, f)
	}
	if at < 9 && e != api.ErrBytes || at >= len(b)-4 && e != api.ErrSum {
		t.Fatalf("%x, changed at %d: %d", b, at, e)
	}
}

// P20.4: a snapshot that ends early is refused, wherever.
func TestEndsEarly(t *testing.T) {
	t.Parallel()
	for seed := range uint64(60) {
		b := save(t, newMaker(5000+seed).doc(int(seed)))
		for n := range b {
			refused(t, "an early end", b[:n], api.ErrShort)
		}
	}
}

// P20.5: two documents have the same bytes just if their images are the same.
func TestOneForm(t *testing.T) {
	t.Parallel()
	var all []api.Image
	for seed := range uint64(40) {
		m := newMaker(6000 + seed)
		d := m.doc(m.IntN(6))
		all = append(all, d.Image(), d.Clone().Image(), aged(m, d).Image())
		m.grow(d, 1)
		all = append(all, d.Image())
	}
	same := 0
	for i, x := range all {
		for _, y := range all[:i] {
			alike := sameImage(x, y)
			if alike {
				same++
			}
			if bytes.Equal(encode(t, x), encode(t, y)) != alike {
				t.Fatalf("%v and %v: the same: %v", x, y, alike)
			}
		}
	}
	if same < 40 {
		t.Errorf("%d are the same", same)
	}
}

// P20.5: the same forest under other handles, or with other nodes that went, has other bytes.
func TestOtherHandles(t *testing.T) {
	t.Parallel()
	base := func() *tree.Doc { return plant(t, el("a", el("b"), text("t")), text("")) }
	docs := []*tree.Doc{base()}
	other := func(change func(d *tree.Doc)) {
		d := base()
		change(d)
		docs = append(docs, d)
	}
	other(func(d *tree.Doc) { d.SetName(hd(1, 1), "c") })
	other(func(d *tree.Doc) { d.SetText(hd(3, 1), "u") })
	other(func(d *tree.Doc) { d.SetText(hd(4, 1), "t") })
	other(func(d *tree.Doc) { d.SetAttr(hd(1, 1), "k", "") })
	other(func(d *tree.Doc) { d.SetAttr(hd(1, 1), "k", "v") })
	other(func(d *tree.Doc) { d.SetAttr(hd(2, 1), "k", "v") })
	other(func(d *tree.Doc) { d.Move(hd(3, 1), api.First, hd(1, 1)) })
	other(func(d *tree.Doc) { d.Move(hd(4, 1), api.First, 0) })
	other(func(d *tree.Doc) { d.Move(hd(2, 1), api.Last, 0) })
	other(func(d *tree.Doc) { d.Delete(hd(4, 1)) })
	other(func(d *tree.Doc) { d.Delete(hd(4, 1)); d.Insert(api.Last, 0, text("")) })
	other(func(d *tree.Doc) { d.Insert(api.Last, 0, text("")) })
	other(func(d *tree.Doc) { n, _ := d.Insert(api.Last, 0, text("")); d.Delete(n) })
	other(func(d *tree.Doc) { n, _ := d.Insert(api.Last, 0, wide(2)); d.Delete(n) })
	seen := map[string]int{}
	for i, d := range docs {
		b := string(save(t, d))
		if was, ok := seen[b]; ok {
			t.Errorf("documents %d and %d have the same bytes", was, i)
		}
		seen[b] = i
	}
	if !bytes.Equal(save(t, base()), save(t, docs[0])) {
		t.Error("the same document has other bytes")
	}
}

// P5: a document comes back from its snapshot, from its log, and from a snapshot and the log since, with all handles; its forest from its markup.
func TestBackByAll(t *testing.T) {
	t.Parallel()
	for seed := range uint64(40) {
		m := newMaker(8000 + seed)
		var d label.Doc
		var early, log []byte
		since := 0
		for i := range 80 {
			if i == 40 {
				early, since = save(t, d.Tree()), len(log)
			}
			op := m.edit(d.Tree())
			if _, e := oplog.Do(&d, op); e == api.OK {
				frame, e := oplog.Encode(op)
				if e != api.OK {
					t.Fatal(e)
				}
				log = append(log, frame...)
			}
		}
		want := save(t, d.Tree())
		if got := save(t, load(t, want)); !bytes.Equal(got, want) {
			t.Fatalf("seed %d: from the snapshot: %x; want %x", seed, got, want)
		}
		if got := replayed(t, &label.Doc{}, log); !bytes.Equal(got, want) {
			t.Fatalf("seed %d: from the log: %x; want %x", seed, got, want)
		}
		x, _ := snapshot.Decode(early)
		l, e := label.Load(x)
		if e != api.OK {
			t.Fatal(e)
		}
		if got := replayed(t, l, log[since:]); !bytes.Equal(got, want) {
			t.Fatalf("seed %d: from a snapshot and the log since: %x; want %x", seed, got, want)
		}
		throughMarkup(t, load(t, want).Forest())
	}
}

// replayed is the bytes of a document on which a log was played.
func replayed(t *testing.T, d *label.Doc, log []byte) []byte {
	t.Helper()
	l, _, e := oplog.Read(log)
	if e != api.OK {
		t.Fatal(e)
	}
	if n, e := oplog.Replay(d, l); n != len(l) || e != api.OK {
		t.Fatalf("Replay: %d of %d, %d", n, len(l), e)
	}
	return save(t, d.Tree())
}

// throughMarkup: a forest comes back from its markup in its normal form.
func throughMarkup(t *testing.T, f []api.Tree) {
	t.Helper()
	s, e := markup.Print(f)
	if e != api.OK {
		t.Fatal(e)
	}
	back, _, e := markup.Parse(s)
	normal, f2 := markup.Normal(f)
	if e != api.OK || f2 != api.OK || !markup.Same(back, normal) {
		t.Fatalf("%q: %v, %d; want %v", s, back, e, normal)
	}
}
