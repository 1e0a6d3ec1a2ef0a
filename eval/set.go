package eval

import (
	"iter"
	"math/bits"
)

// set is places, a bit each: nothing stands in it twice, and it is gone through in document order.
type set []uint64

// none is an empty set, with room for all places.
func (x *Index) none() set { return make(set, len(x.nodes)/64+1) }

// only is a set of places.
func (x *Index) only(places ...int) set {
	s := x.none()
	for _, i := range places {
		s.put(i)
	}
	return s
}

func (s set) put(i int) { s[i/64] |= 1 << (i % 64) }

func (s set) drop(i int) { s[i/64] &^= 1 << (i % 64) }

func (s set) has(i int) bool { return s[i/64]>>(i%64)&1 == 1 }

// add puts all of another set in.
func (s set) add(t set) {
	for k := range s {
		s[k] |= t[k]
	}
}

// shared is what stands in both.
func (s set) shared(t set) set {
	both := make(set, len(s))
	for k := range s {
		both[k] = s[k] & t[k]
	}
	return both
}

// one is the place of a set of one.
func (s set) one() (int, bool) {
	n, at := 0, 0
	for i := range s.all() {
		if n++; n > 1 {
			return 0, false
		}
		at = i
	}
	return at, n == 1
}

// all tells the places, rising. What was told may be dropped on the way.
func (s set) all() iter.Seq[int] {
	return func(tell func(i int) bool) {
		for k, word := range s {
			for ; word != 0; word &= word - 1 {
				if !tell(k*64 + bits.TrailingZeros64(word)) {
					return
				}
			}
		}
	}
}
