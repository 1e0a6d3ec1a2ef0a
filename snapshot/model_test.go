package snapshot_test

import (
	"bytes"
	"math"
	"math/big"
	"slices"
	"strings"
	"testing"

	"espalier/api"
	"espalier/snapshot"
	"espalier/tree"
)

// model reads a snapshot by the words of chapter 20, another way than the program: it goes on behind a fault, and the first one that it noted counts.
type model struct {
	body []byte
	why  api.Errno
}

func (m *model) note(e api.Errno) {
	if m.why == api.OK {
		m.why = e
	}
}

// next is so many bytes, or zeros.
func (m *model) next(n int) []byte {
	if n > len(m.body) {
		m.note(api.ErrShort)
		m.body = nil
		return make([]byte, n)
	}
	b := m.body[:n]
	m.body = m.body[n:]
	return b
}

// number is what stands there, if it is from least to most; else least.
func (m *model) number(least, most uint64) uint64 {
	n, unit := new(big.Int), big.NewInt(1)
	below := new(big.Int).Lsh(big.NewInt(1), 64)
	for first := true; ; first = false {
		b := m.next(1)[0]
		if b == 0 && !first { // it could do without this one
			m.note(api.ErrBytes)
		}
		n.Add(n, new(big.Int).Mul(unit, big.NewInt(int64(b%128))))
		unit.Lsh(unit, 7)
		// What goes on is at least as much as one in the next place.
		if n.Cmp(below) >= 0 || b >= 128 && unit.Cmp(below) >= 0 {
			m.note(api.ErrBytes)
		}
		if b < 128 || m.why != api.OK {
			break
		}
	}
	if !n.IsUint64() || n.Uint64() < least || n.Uint64() > most {
		m.note(api.ErrBytes)
		return least
	}
	return n.Uint64()
}

func (m *model) text() string { return string(m.next(int(m.number(0, api.MaxText)))) }

func (m *model) list(slots uint64) []uint64 {
	l := make([]uint64, m.number(0, slots))
	for i := range l {
		l[i] = m.number(1, slots)
	}
	return l
}

// modelSlot is a slot, with indexes for handles.
type modelSlot struct {
	api.Slot
	parent uint64
	kids   []uint64
}

func (m *model) slot(slots uint64) modelSlot {
	var s modelSlot
	s.Gen = uint32(m.number(1, math.MaxUint32))
	switch m.next(1)[0] {
	case 0:
	case 1:
		s.Live, s.Kind, s.Name = true, api.Element, m.text()
		s.Attrs = make([]api.Attr, m.number(0, api.MaxAttrs))
		for i := range s.Attrs {
			s.Attrs[i].Name = m.text()
			s.Attrs[i].Value = m.text()
		}
		s.parent, s.kids = m.number(0, slots), m.list(slots)
	case 2:
		s.Live, s.Kind, s.Text = true, api.Text, m.text()
		s.parent = m.number(0, slots)
	default:
		m.note(api.ErrBytes)
	}
	return s
}

// modelDecode is what the chapter says that Decode answers.
func modelDecode(b []byte) (api.Image, api.Errno) {
	const head = "espalier\x01"
	switch {
	case strings.HasPrefix(head, string(b)):
		return api.Image{}, api.ErrShort
	case !bytes.HasPrefix(b, []byte(head)):
		return api.Image{}, api.ErrBytes
	case len(b) < 13:
		return api.Image{}, api.ErrShort
	}
	m := model{body: b[9 : len(b)-4]}
	slots := make([]modelSlot, m.number(0, api.MaxNodes))
	for i := 0; i < len(slots) && m.why == api.OK; i++ {
		slots[i] = m.slot(uint64(len(slots)))
	}
	roots := m.list(uint64(len(slots)))
	if len(m.body) > 0 {
		m.note(api.ErrMore)
	}
	if !bytes.Equal(summed(b[:len(b)-4]), b) {
		m.note(api.ErrSum)
	}
	if m.why != api.OK {
		return api.Image{}, m.why
	}
	x := modelImage(slots, roots)
	if _, e := tree.Load(x); e != api.OK {
		return api.Image{}, e
	}
	return x, api.OK
}

func modelImage(slots []modelSlot, roots []uint64) api.Image {
	handles := func(l ...uint64) []api.Handle {
		out := make([]api.Handle, len(l))
		for i, n := range l {
			if n > 0 {
				out[i] = hd(n, uint64(slots[n-1].Gen))
			}
		}
		return out
	}
	x := api.Image{Roots: handles(roots...)}
	for _, s := range slots {
		s.Parent, s.Kids = handles(s.parent)[0], handles(s.kids...)
		x.Slots = append(x.Slots, s.Slot)
	}
	return x
}

// asModel: Decode and Load answer as the model does; it tells what.
func asModel(t *testing.T, b []byte) api.Errno {
	t.Helper()
	want, why := modelDecode(b)
	x, e := snapshot.Decode(b)
	if e != why || !sameImage(x, want) {
		t.Fatalf("Decode of %x: %v, %d; want %v, %d", b, x, e, want, why)
	}
	d, e := snapshot.Load(b)
	if e != why || (d != nil) != (why == api.OK) || d != nil && !sameImage(d.Image(), want) {
		t.Fatalf("Load of %x: %v, %d; want %v, %d", b, d, e, want, why)
	}
	if again, e := snapshot.Encode(x); why == api.OK && (e != api.OK || !bytes.Equal(again, b)) {
		t.Fatalf("Encode of %v: %x, %d; want %x", x, again, e, b)
	}
	return why
}

// spoil changes a body at one or more places.
func (m maker) spoil(b []byte) []byte {
	b = slices.Clone(b)
	for range 1 + m.IntN(3) {
		if len(b) == 0 {
			return b
		}
		i := m.IntN(len(b))
		switch m.IntN(8) {
		case 0:
			b[i] = byte(m.Uint32())
		case 1:
			b = slices.Delete(b, i, i+1)
		case 2:
			b = slices.Insert(b, i, byte(m.IntN(4)))
		case 3:
			b = b[:i]
		case 4:
			b = slices.Insert(b, i, 0x80|byte(m.IntN(2)), byte(m.IntN(3)))
		case 5:
			b = slices.Insert(b, i, slices.Repeat([]byte{0x80 | byte(m.Uint32())}, 7+m.IntN(4))...)
		default:
			b[i] += byte(1 - 2*m.IntN(2))
		}
	}
	return b
}

// P20.2: bodies that were changed anywhere are read as the chapter's words have it, with a right sum and with another one.
func TestAsModel(t *testing.T) {
	t.Parallel()
	told := map[api.Errno]int{}
	for seed := range uint64(400) {
		m := newMaker(1000 + seed)
		body := bodyOf(m.doc(1 + int(seed)%40).Image())
		told[asModel(t, snap(body))]++
		for range 60 {
			b := snap(m.spoil(body))
			told[asModel(t, b)]++
			told[asModel(t, otherSum(b))]++
		}
	}
	for _, e := range []api.Errno{api.OK, api.ErrShort, api.ErrMore, api.ErrImage, api.ErrSum, api.ErrBytes} {
		if told[e] < 300 {
			t.Errorf("%d was told %d times", e, told[e])
		}
	}
}

// P20.2: each byte of a body each other byte, with a right sum.
func TestEachByte(t *testing.T) {
	t.Parallel()
	for _, s := range shapes {
		body := bodyOf(s.x)
		for i := range body {
			for x := 1; x < 256; x++ {
				body[i] ^= byte(x)
				asModel(t, snap(body))
				body[i] ^= byte(x)
			}
		}
		for n := range body {
			if e := asModel(t, snap(body[:n])); e != api.ErrShort {
				t.Errorf("%s: of %d bytes: %d", s.what, n, e)
			}
		}
	}
}

// P20.2: any bytes behind the header, small ones above all.
func TestAnyBytes(t *testing.T) {
	t.Parallel()
	m := newMaker(7)
	for range 20000 {
		b := make([]byte, m.IntN(40))
		for i := range b {
			b[i] = byte(m.IntN(4))
			if m.IntN(20) == 0 {
				b[i] = byte(m.Uint32())
			}
		}
		asModel(t, snap(b))
		asModel(t, join([]byte("espalier\x01"), b))
	}
}
