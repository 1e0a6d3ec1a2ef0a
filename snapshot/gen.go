package snapshot

import "espalier/api"

// withGens gives an image's handles, which are indexes so far, the generations of their slots.
func withGens(x api.Image) api.Image {
	give := func(h *api.Handle) {
		if *h > 0 {
			*h |= api.Handle(x.Slots[*h-1].Gen) << 32
		}
	}
	for i := range x.Slots {
		s := &x.Slots[i]
		give(&s.Parent)
		for k := range s.Kids {
			give(&s.Kids[k])
		}
	}
	for i := range x.Roots {
		give(&x.Roots[i])
	}
	return x
}
