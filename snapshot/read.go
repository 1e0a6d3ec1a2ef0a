package snapshot

import (
	"math"

	"espalier/api"
	"espalier/oplog"
)

// reader goes through bytes from the left, and gives up by a panic with the first fault.
type reader struct {
	rest  []byte
	slots int // how many the image has
}

// fault is what is wrong first.
type fault struct{ why api.Errno }

func fail(why api.Errno) { panic(fault{why}) }

// read reads a snapshot, of which it may still be that its image can't be.
func read(b []byte) api.Image {
	end := bodyEnd(b)
	r := reader{rest: b[len(header):end]}
	x := r.image()
	if len(r.rest) > 0 {
		fail(api.ErrMore)
	}
	if oplog.Sum(b[:end]) != sumOf(b[end:]) {
		fail(api.ErrSum)
	}
	return x
}

// bodyEnd is where what stands between the header and the sum ends.
func bodyEnd(b []byte) int {
	if n := min(len(b), len(header)); string(b[:n]) != header[:n] {
		fail(api.ErrBytes)
	}
	if len(b) < len(header)+foot {
		fail(api.ErrShort)
	}
	return len(b) - foot
}

// sumOf is the number that is written in a foot.
func sumOf(b []byte) uint32 {
	n := uint32(0)
	for _, x := range b {
		n = n<<8 | uint32(x)
	}
	return n
}

func (r *reader) image() api.Image {
	var x api.Image
	r.slots = r.count(api.MaxNodes)
	for range r.slots {
		x.Slots = append(x.Slots, r.slot())
	}
	x.Roots = r.list()
	return withGens(x)
}

// slot reads a slot; its handles are without their generations, as these may stand in slots that come later.
func (r *reader) slot() api.Slot {
	s := api.Slot{Gen: uint32(r.number(1, math.MaxUint32))}
	switch r.byte() {
	case dead:
		return s
	case api.Element:
		s.Live, s.Kind = true, api.Element
		s.Name = r.text()
		for range r.count(api.MaxAttrs) {
			s.Attrs = append(s.Attrs, api.Attr{Name: r.text(), Value: r.text()})
		}
		s.Parent = r.index(0)
		s.Kids = r.list()
	case api.Text:
		s.Live, s.Kind = true, api.Text
		s.Text = r.text()
		s.Parent = r.index(0)
	default:
		fail(api.ErrBytes)
	}
	return s
}

// list reads Kids, or Roots.
func (r *reader) list() []api.Handle {
	var l []api.Handle
	for range r.count(r.slots) {
		l = append(l, r.index(1))
	}
	return l
}

// index reads a handle's index, from the least that may be there.
func (r *reader) index(least uint64) api.Handle {
	return api.Handle(r.number(least, uint64(r.slots)))
}

func (r *reader) text() string {
	n := r.count(api.MaxText)
	if n > len(r.rest) {
		fail(api.ErrShort)
	}
	s := string(r.rest[:n])
	r.rest = r.rest[n:]
	return s
}

// count reads how many of something there are: so many at most.
func (r *reader) count(most int) int { return int(r.number(0, uint64(most))) }

// number reads a number that may be there just if it is neither below least nor above most.
func (r *reader) number(least, most uint64) uint64 {
	n := uint64(0)
	for shift := 0; ; shift += 7 {
		x := r.byte()
		if shift > 0 && x == 0 || shift == 63 && x > 1 {
			fail(api.ErrBytes)
		}
		n |= uint64(x&^more) << shift
		if x < more {
			break
		}
	}
	if n < least || n > most {
		fail(api.ErrBytes)
	}
	return n
}

func (r *reader) byte() byte {
	if len(r.rest) == 0 {
		fail(api.ErrShort)
	}
	x := r.rest[0]
	r.rest = r.rest[1:]
	return x
}
