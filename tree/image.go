package tree

import "espalier/api"

// Image is all of the document, with its handles and how often each was given.
func (d *Doc) Image() api.Image {
	return api.Image{Slots: d.copySlots(), Roots: fresh(d.roots)}
}

// Clone is another document that is the same.
func (d *Doc) Clone() *Doc {
	return &Doc{slots: d.copySlots(), roots: fresh(d.roots), live: d.live}
}

// Load is the document of an image.
func Load(x api.Image) (*Doc, api.Errno) {
	if len(x.Slots) > api.MaxNodes {
		return nil, api.ErrImage
	}
	r := reader{slots: make([]readSlot, len(x.Slots))}
	live := 0
	for i, s := range x.Slots {
		if !canBe(s) {
			return nil, api.ErrImage
		}
		if s.Live {
			live++
		}
		r.slots[i].Slot = s
	}
	// Each list that is gone through has right nodes that no other one has; if so many stand there as live ones, all do.
	if !r.read(0, x.Roots, 1) || r.stand != live {
		return nil, api.ErrImage
	}
	slots := copySlots(len(r.slots), func(i int) api.Slot { return used(r.slots[i].Slot) })
	return &Doc{slots: slots, roots: fresh(x.Roots), live: live}, api.OK
}

func (d *Doc) copySlots() []api.Slot {
	return copySlots(len(d.slots), func(i int) api.Slot { return d.slots[i] })
}

// copySlots is so many slots in memory of their own; find tells what stands at a place.
func copySlots(n int, find func(place int) api.Slot) []api.Slot {
	l := make([]api.Slot, n)
	for i := range l {
		s := find(i)
		s.Attrs, s.Kids = fresh(s.Attrs), fresh(s.Kids)
		l[i] = s
	}
	return l
}

// readSlot is a slot of an image that is read, and whether its node stands in a list that was gone through.
type readSlot struct {
	api.Slot
	stands bool
}

// reader goes through an image: its slots, and how many of their nodes stand in the lists so far.
type reader struct {
	slots []readSlot
	stand int
}

// read goes through the list of a parent (0: of the roots), whose nodes lie so deep, and the lists within; false, if there is something wrong.
func (r *reader) read(parent api.Handle, list []api.Handle, depth int) bool {
	for _, n := range list {
		s := r.find(n)
		if s == nil || s.stands || s.Parent != parent || depth > api.MaxDepth {
			return false
		}
		s.stands = true
		r.stand++
		if s.Kind == api.Element && !r.read(n, s.Kids, depth+1) {
			return false
		}
	}
	return true
}

// find is the slot of a live node; nil, if n is the handle of none.
func (r *reader) find(n api.Handle) *readSlot {
	i := place(n, len(r.slots))
	if i < 0 || !isOf(r.slots[i].Slot, n) {
		return nil
	}
	return &r.slots[i]
}

// canBe tells whether a document can have such a slot, as far as it tells by itself.
func canBe(s api.Slot) bool {
	node := api.Tree{Kind: s.Kind, Name: s.Name, Attrs: s.Attrs, Text: s.Text}
	return s.Gen > 0 && (!s.Live || Check(node) == api.OK)
}

// used is a slot without what its kind, or a dead one, does not use.
func used(s api.Slot) api.Slot {
	switch {
	case !s.Live:
		return api.Slot{Gen: s.Gen}
	case s.Kind == api.Text:
		return api.Slot{Gen: s.Gen, Live: true, Kind: s.Kind, Text: s.Text, Parent: s.Parent}
	}
	s.Text = ""
	return s
}
