package oplog_test

import (
	"bytes"
	"encoding/hex"
	"hash/fnv"
	"slices"
	"testing"

	"espalier/api"
	"espalier/oplog"
)

// P19.1: the sum, byte by byte.
func TestSum(t *testing.T) {
	t.Parallel()
	for s, want := range map[string]uint32{"": 2166136261, "\x00": 84696351, "a": 0xe40c292c, "foobar": 0xbf9cf968} {
		if h := oplog.Sum([]byte(s)); h != want {
			t.Errorf("Sum of %q: %d; want %d", s, h, want)
		}
	}
	if h := oplog.Sum(nil); h != 2166136261 {
		t.Errorf("Sum of none: %d", h)
	}
	m := newMaker(1)
	for range 200 {
		b := make([]byte, m.IntN(300))
		for i := range b {
			b[i] = byte(m.Uint32())
		}
		h := fnv.New32a()
		h.Write(b)
		if got := oplog.Sum(b); got != h.Sum32() {
			t.Fatalf("Sum of %x: %d; want %d", b, got, h.Sum32())
		}
	}
}

// frames is one frame of each Kind, by hand; without their sums.
var frames = []struct {
	op   api.Op
	want string
}{
	{insert(api.First, 0, text("")), "0000000d 01 0000000000000000 01 02 0000"},
	{insert(api.After, 7, text("é")), "0000000f 01 0000000000000007 04 02 0002c3a9"},
	{insert(255, hd(2, 3), el("a")), "00000011 01 0000000300000002 ff 01 000161 00 0000"},
	{insert(0, 1<<64-1, with(el("a", el("b"), text("x")), "j", "", "k", "yz")),
		"00000028 01 ffffffffffffffff 00 01 000161 02 00016a 0000 00016b 0002797a 0002 01 000162 00 0000 02 000178"},
	{move(hd(1, 2), api.Last, 5), "00000012 02 0000000200000001 0000000000000005 02"},
	{move(0, 0, 0x0102030405060708), "00000012 02 0000000000000000 0102030405060708 00"},
	{remove(1<<32 + 1), "00000009 03 0000000100000001"},
	{remove(1<<64 - 1), "00000009 03 ffffffffffffffff"},
	{rename(1, "ab"), "0000000d 04 0000000000000001 00026162"},
	{rename(1, ""), "0000000b 04 0000000000000001 0000"},
	{retext(1<<63, "é\n"), "0000000e 05 8000000000000000 0003c3a90a"},
	{attr(2, "k", "v w"), "00000011 06 0000000000000002 00016b 0003762077"},
	{attr(2, "", ""), "0000000d 06 0000000000000002 0000 0000"},
	{drop(3, "k"), "0000000c 07 0000000000000003 00016b"},
}

// P19.1: the frame of each Kind; example 1.
func TestFrames(t *testing.T) {
	t.Parallel()
	for _, f := range frames {
		b := encode(t, f.op)
		want, err := hex.DecodeString(string(bytes.ReplaceAll([]byte(f.want), []byte(" "), nil)))
		if err != nil {
			t.Fatal(err)
		}
		h := fnv.New32a()
		h.Write(want)
		want = h.Sum(want)
		if !bytes.Equal(b, want) {
			t.Errorf("Encode of %v: %x; want %x", f.op, b, want)
		}
		decodes(t, want, f.op, len(want))
		decodes(t, append(want, "more"...), f.op, len(want))
	}
}

// P19.1: a number of more than one byte ahead of a text, of children, of the body, the highest first.
func TestGreatNumbers(t *testing.T) {
	t.Parallel()
	wideText := retext(1, long(api.MaxText))
	for _, op := range []api.Op{wideText, rename(1, long(api.MaxText)), attr(1, long(300), long(0x1234)), insert(1, 0, wide(api.MaxNodes)), insert(1, 0, text(long(api.MaxText))), insert(1, 0, chain(api.MaxDepth)), insert(1, 0, with(el("a"), "k", long(api.MaxText)))} {
		want := frameOf(op)
		if b := encode(t, op); !bytes.Equal(b, want) {
			t.Errorf("Encode: %s; want %s", short(b), short(want))
		}
		decodes(t, want, op, len(want))
	}
	if b := encode(t, wideText); !bytes.Equal(b[:15], []byte{0, 0, 0x40, 11, 5, 0, 0, 0, 0, 0, 0, 0, 1, 0x40, 0}) {
		t.Errorf("Encode: %x", b[:15])
	}
	if b := encode(t, insert(1, 0, wide(api.MaxNodes))); !bytes.Equal(b[14:21], []byte{1, 0, 1, 'w', 0, 0x0f, 0xff}) {
		t.Errorf("Encode: %x", b[14:21])
	}
}

// P19.1: frames of any edits are as the chapter's words make them, whatever stands in what plays no part.
func TestFramesOfAny(t *testing.T) {
	t.Parallel()
	m := newMaker(2)
	for range 3000 {
		op := m.op()
		was := copyOps([]api.Op{op})[0]
		b := encode(t, op)
		if want := frameOf(op); !bytes.Equal(b, want) {
			t.Fatalf("Encode of %v: %x; want %x", op, b, want)
		}
		if !sameOp(op, was) {
			t.Fatalf("Encode changed %v; it was %v", op, was)
		}
	}
}

// P19.1: what an edit has to be to be logged, up to the edges.
func TestCanBeLogged(t *testing.T) {
	t.Parallel()
	x := insert(1, 0, el("a"))
	x.Node, x.Name, x.Value = 1<<64-1, "\x00", long(api.MaxText+1)
	y := remove(1)
	y.At, y.Where, y.Name, y.Value, y.Tree = 9, -1, "\xff", "\x00", api.Tree{Kind: 3}
	z := rename(1, "a")
	z.Where, z.Value, z.Tree.Attrs = 256, "\x00", []api.Attr{{}}
	w := retext(1, "a")
	w.Where, w.Name, w.Tree.Kids = 256, "\x00", []api.Tree{{}}
	v := move(1, 255, 1)
	v.Name, v.Value, v.Tree = "\x00", "\x00", chain(api.MaxDepth+1)
	for _, op := range []api.Op{
		x, y, z, w, v,
		insert(0, 0, el("a")), insert(255, 0, el("a")), move(0, 0, 0), move(0, 255, 0),
		rename(0, "no name: 1"), drop(0, "?"), attr(0, " ", ""), rename(0, long(api.MaxText)), retext(0, long(api.MaxText)), attr(0, long(api.MaxText), long(api.MaxText)),
		insert(1, 0, chain(api.MaxDepth)), insert(1, 0, wide(api.MaxNodes)), insert(1, 0, manyAttrs(api.MaxAttrs)), insert(1, 0, el(long(api.MaxName))), insert(1, 0, text(long(api.MaxText))),
	} {
		decodes(t, encode(t, op), lean(op), len(frameOf(op)))
	}
}

// manyAttrs is an element with so many attributes.
func manyAttrs(n int) api.Tree {
	x := el("a")
	for i := range n {
		x = with(x, "k"+string(rune('0'+i/10))+string(rune('0'+i%10)), "v")
	}
	return x
}

// P19.1: ErrOp of an edit that can't be logged, and no bytes; P19.2: Do does none of these.
func TestCantBeLogged(t *testing.T) {
	t.Parallel()
	for i, op := range []api.Op{
		{}, {Kind: -1}, {Kind: api.OpReplace}, {Kind: 9}, {Kind: 257}, {Kind: 256 + api.OpDelete}, {Kind: api.OpReplace, Node: 1, Tree: el("a")}, {Kind: -1 << 63},
		insert(-1, 0, el("a")), insert(256, 0, el("a")), insert(1<<62, 0, el("a")), move(1, -1, 0), move(1, 256, 0), move(1, 257, 0),
		rename(1, "\x00"), rename(1, long(api.MaxText+1)), rename(1, "a\xff"), drop(1, "\x00"), drop(1, long(api.MaxText+1)), drop(1, "\xc0\x80"),
		retext(1, "\x00"), retext(1, long(api.MaxText+1)), retext(1, "é"[:1]),
		attr(1, "\x00", ""), attr(1, "", "\x00"), attr(1, long(api.MaxText+1), ""), attr(1, "", long(api.MaxText+1)),
		insert(1, 0, api.Tree{}), insert(1, 0, api.Tree{Kind: 3}), insert(1, 0, el("")), insert(1, 0, el("1")), insert(1, 0, el(long(api.MaxName+1))),
		insert(1, 0, text("\x00")), insert(1, 0, text(long(api.MaxText+1))), insert(1, 0, chain(api.MaxDepth+1)), insert(1, 0, wide(api.MaxNodes+1)),
		insert(1, 0, manyAttrs(api.MaxAttrs+1)), insert(1, 0, with(el("a"), "k", "", "j", "")), insert(1, 0, with(el("a"), "k", "", "k", "")), insert(1, 0, with(el("a"), "k", "\x00")), insert(1, 0, with(el("a"), "", "")),
		insert(1, 0, el("a", el("b", api.Tree{Kind: 3}))), insert(1, 0, el("a", text("x"), text("\x00"))),
	} {
		if b, e := oplog.Encode(op); len(b) != 0 || e != api.ErrOp {
			t.Errorf("Encode of %d: %s, %d", i, short(b), e)
		}
		d := plant(t, el("a", text("x")))
		was := image(d)
		if h, e := oplog.Do(d, op); h != 0 || e != api.ErrOp || !sameImage(image(d), was) {
			t.Errorf("Do of %d: %x, %d", i, h, e)
		}
	}
}

// endless is a tree that lies within itself: it can be handed in, but can't be.
func endless() api.Tree {
	kids := make([]api.Tree, 2)
	kids[0], kids[1] = el("a", kids...), text("x")
	kids[0].Kids = kids
	return el("r", kids...)
}

// P19.1: Encode ends also at a tree that does not.
func TestEndless(t *testing.T) {
	t.Parallel()
	if b, e := oplog.Encode(insert(1, 0, endless())); len(b) != 0 || e != api.ErrOp {
		t.Errorf("%s, %d", short(b), e)
	}
	if h, e := oplog.Do(plant(t), insert(1, 0, endless())); h != 0 || e != api.ErrOp {
		t.Errorf("%x, %d", h, e)
	}
	b := encode(t, api.Op{Kind: api.OpDelete, Tree: endless()})
	decodes(t, b, remove(0), 17)
}

// P19.1: ErrShort of fewer than 8 bytes, or than the first 4 say.
func TestShort(t *testing.T) {
	t.Parallel()
	for n := range 8 {
		undecoded(t, make([]byte, n), api.ErrShort)
		undecoded(t, bytes.Repeat([]byte{255}, n), api.ErrShort)
	}
	b := encode(t, attr(1, "k", "v"))
	for n := range b {
		undecoded(t, b[:n], api.ErrShort)
	}
	for _, first := range []uint64{1, 255, 256, 1 << 16, 1 << 24, 1 << 31, 1<<32 - 8, 1<<32 - 1} {
		undecoded(t, join(num(4, first), []byte("wxyz")), api.ErrShort)
		undecoded(t, join(num(4, first), make([]byte, min(first, 1<<17)+3)), api.ErrShort)
	}
	// One byte more than there are; all else would be another error.
	undecoded(t, join(num(4, 3), []byte{3, 0}, []byte("wxyz")), api.ErrShort)
	undecoded(t, join(num(4, 1<<17), make([]byte, 1<<17+4)), api.ErrSum)
	undecoded(t, join(num(4, 2), []byte{3, 0}, []byte("wxyz")), api.ErrSum)
}

// P19.1: ErrSum goes ahead of ErrOp, behind ErrShort.
func TestOtherSum(t *testing.T) {
	t.Parallel()
	for _, body := range [][]byte{nil, {0}, {9}, bodyOf(remove(1)), append(bodyOf(remove(1)), 0)} {
		b := framed(body)
		for i := range 4 {
			b[len(b)-1-i]++
			undecoded(t, b, api.ErrSum)
			undecoded(t, b[:len(b)-1], api.ErrShort)
			b[len(b)-1-i]--
		}
		slices.Reverse(b[len(b)-4:])
		undecoded(t, b, api.ErrSum)
	}
	undecoded(t, make([]byte, 8), api.ErrSum)
	// The sum is also of the number ahead.
	body := bodyOf(remove(1))
	undecoded(t, join(num(4, 9), body, num(4, uint64(oplog.Sum(body)))), api.ErrSum)
}

// ahead is the beginning of a body of OpInsert.
var ahead = join([]byte{1}, num(8, 0), []byte{1})

// wrongBodies is bodies that are none.
func wrongBodies() map[string][]byte {
	name, node := str("a"), num(8, 1)
	return map[string][]byte{
		"empty": nil, "Kind 0": join([]byte{0}, node), "Kind 8": join([]byte{8}, node, ahead[9:], treeBytes(el("a"))), "Kind 255": join([]byte{255}, node), "Kind 0 alone": {0},
		"delete, more": join([]byte{3}, node, []byte{0}), "delete, less": join([]byte{3}, node[1:]),
		"a name that can't be":  join([]byte{4}, node, str("\x00")),
		"a text that can't be":  join([]byte{5}, node, str("\xff")),
		"a value that can't be": join([]byte{6}, node, name, str("\xc0\x80")),
		"an attribute's name":   join([]byte{6}, node, str("\x00"), name),
		"drop of what can't be": join([]byte{7}, node, str("a\x00")),
		"a long text":           join([]byte{5}, node, str(long(api.MaxText+1))),
		"a long name":           join([]byte{4}, node, str(long(65535))),
		"a text too short":      join([]byte{5}, node, num(2, 2), []byte("a")),
		"a text too long":       join([]byte{5}, node, num(2, 1), []byte("ab")),
		"half a number":         join([]byte{5}, node, []byte{0}),
		"no tree":               ahead, "no tree but more": append(slices.Clone(ahead), 0),
		"a tree of Kind 0": join(ahead, []byte{0}, name, num(1, 0), num(2, 0)), "a tree of Kind 3": join(ahead, []byte{3}, name, num(1, 0), num(2, 0)),
		"a text of Kind 3":         join(ahead, []byte{3}, name),
		"a tree and more":          join(ahead, treeBytes(el("a")), []byte{0}),
		"two trees":                join(ahead, treeBytes(text("a")), treeBytes(text("b"))),
		"a kid too few":            join(ahead, []byte{1}, name, num(1, 0), num(2, 2), treeBytes(text("x"))),
		"a kid too many":           join(ahead, []byte{1}, name, num(1, 0), num(2, 1), treeBytes(text("x")), treeBytes(text("y"))),
		"many kids too few":        join(ahead, []byte{1}, name, num(1, 0), num(2, 65535), treeBytes(text("x"))),
		"an attribute too few":     join(ahead, []byte{1}, name, num(1, 2), name, name, num(2, 0)),
		"an attribute too many":    join(ahead, []byte{1}, name, num(1, 1), name, name, name, name, num(2, 0)),
		"many attributes too few":  join(ahead, []byte{1}, name, num(1, 255), name, name),
		"attributes that fall":     join(ahead, treeBytes(with(el("a"), "k", "", "j", ""))),
		"an attribute twice":       join(ahead, treeBytes(with(el("a"), "k", "", "k", ""))),
		"too many attributes":      join(ahead, treeBytes(manyAttrs(api.MaxAttrs+1))),
		"all attributes":           join(ahead, treeBytes(manyAttrs(99))),
		"an attribute's name wide": join(ahead, treeBytes(with(el("a"), "", ""))),
		"an attribute's value":     join(ahead, treeBytes(with(el("a"), "k", "\x00"))),
		"a long value":             join(ahead, treeBytes(with(el("a"), "k", long(api.MaxText+1)))),
		"an element's name":        join(ahead, treeBytes(el("1"))),
		"an element's empty name":  join(ahead, treeBytes(el(""))),
		"an element's long name":   join(ahead, treeBytes(el(long(api.MaxName+1)))),
		"a tree's text":            join(ahead, treeBytes(text("\x00"))),
		"a tree's long text":       join(ahead, treeBytes(text(long(api.MaxText+1)))),
		"a deep text":              join(ahead, treeBytes(el("a", el("b", text("\xff"))))),
		"too deep":                 join(ahead, treeBytes(chain(api.MaxDepth+1))),
		"much too deep":            join(ahead, treeBytes(chain(500))),
		"too many":                 join(ahead, treeBytes(wide(api.MaxNodes+1))),
		"much too many":            join(ahead, treeBytes(wide(65536))),
	}
}

// P19.1: ErrOp, if the body is not just that of an edit that can be logged.
func TestNoBody(t *testing.T) {
	t.Parallel()
	for what, body := range wrongBodies() {
		t.Run(what, func(t *testing.T) {
			undecoded(t, framed(body), api.ErrOp)
			reads(t, join(framed(body), frameOf(remove(1))), nil, 0, api.ErrOp)
			reads(t, join(frameOf(remove(1)), framed(body)), []api.Op{remove(1)}, 17, api.ErrOp)
		})
	}
}

// P19.1: no beginning of a body is one, and none with something behind.
func TestCutBodies(t *testing.T) {
	t.Parallel()
	m := newMaker(3)
	for range 150 {
		body := bodyOf(m.op())
		for n := range body {
			undecoded(t, framed(body[:n]), api.ErrOp)
		}
		for _, more := range []byte{0, 1, 2, 255} {
			undecoded(t, framed(append(slices.Clone(body), more)), api.ErrOp)
		}
	}
}

// P19.1: of a body in which a byte is another one Decode tells just the edit that has it, or none.
func TestSpoiltBodies(t *testing.T) {
	t.Parallel()
	m := newMaker(4)
	edits := 0
	for range 400 {
		body := bodyOf(m.op())
		for i := range body {
			was := body[i]
			body[i] = byte(m.IntN(256))
			if m.IntN(2) == 0 {
				body[i] = was + byte(1-2*m.IntN(2))
			}
			b := framed(body)
			op, n, e := oplog.Decode(b)
			if e == api.OK {
				edits++
				if back, _ := oplog.Encode(op); n != len(b) || !bytes.Equal(back, b) || !sameOp(op, lean(op)) {
					t.Fatalf("Decode of %x: %v, %d; again %x", b, op, n, back)
				}
			} else {
				undecoded(t, b, api.ErrOp)
			}
			body[i] = was
		}
	}
	if edits < 1000 {
		t.Errorf("%d bodies are ones", edits)
	}
}

// P19.1: Read of frames up to the end, or the first error; example 2.
func TestRead(t *testing.T) {
	t.Parallel()
	l := []api.Op{insert(api.Last, 0, el("a", text("x"))), attr(hd(1, 1), "k", "v"), remove(hd(1, 1))}
	b := framesOf(l)
	first := len(frameOf(l[0]))
	two := first + len(frameOf(l[1]))
	reads(t, nil, nil, 0, api.OK)
	reads(t, []byte{}, nil, 0, api.OK)
	reads(t, b, l, len(b), api.OK)
	reads(t, b[:two], l[:2], two, api.OK)
	reads(t, b[:two+3], l[:2], two, api.ErrShort)
	reads(t, b[:first], l[:1], first, api.OK)
	reads(t, b[:5], nil, 0, api.ErrShort)
	reads(t, append(slices.Clone(b), 0), l, len(b), api.ErrShort)
	reads(t, append(slices.Clone(b), make([]byte, 9)...), l, len(b), api.ErrSum)
	reads(t, append(slices.Clone(b), framed(nil)...), l, len(b), api.ErrOp)
	// What stands behind an error is not read, be it whole.
	spoilt := slices.Clone(b)
	spoilt[first+5]++
	reads(t, spoilt, l[:1], first, api.ErrSum)
	spoilt = slices.Clone(b)
	spoilt[4]++
	reads(t, spoilt, nil, 0, api.ErrSum)
	spoilt = slices.Clone(b)
	spoilt[first]++
	reads(t, spoilt, l[:1], first, api.ErrShort)
}
