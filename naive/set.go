package naive

import (
	"iter"
	"math/bits"
)

// set is places, a bit each: nothing stands in it twice, and it is gone through in document order.
type set []uint64

// none is an empty set, with room for all places.
func (w *walker) none() set { return make(set, len(w.nodes)/64+1) }

// only is a set of places.
func (w *walker) only(places ...int) set {
	s := w.none()
	for _, at := range places {
		s.put(at)
	}
	return s
}

func (s set) put(at int) { s[at/64] |= 1 << (at % 64) }

func (s set) drop(at int) { s[at/64] &^= 1 << (at % 64) }

func (s set) has(at int) bool { return s[at/64]>>(at%64)&1 == 1 }

// add puts all of another set in.
func (s set) add(t set) {
	for k := range s {
		s[k] |= t[k]
	}
}

// all tells the places, rising.
func (s set) all() iter.Seq[int] {
	return func(tell func(at int) bool) {
		for k, word := range s {
			for ; word != 0; word &= word - 1 {
				if !tell(k*64 + bits.TrailingZeros64(word)) {
					return
				}
			}
		}
	}
}
