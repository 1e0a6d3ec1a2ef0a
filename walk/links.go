package walk

import "iter"

// Only lets through what is meant.
func Only[T any](s iter.Seq[T], means func(x T) bool) iter.Seq[T] {
	return func(yield func(T) bool) {
		if s == nil || means == nil {
			return
		}
		for x := range s {
			if means(x) && !yield(x) {
				return
			}
		}
	}
}

// Most lets so many through. It stops with the last of them, not when one more comes up: to ask for that might take for ever.
func Most[T any](s iter.Seq[T], n int) iter.Seq[T] {
	return func(yield func(T) bool) {
		if s == nil || n < 1 {
			return
		}
		left := n
		for x := range s {
			left--
			if !yield(x) || left == 0 {
				return
			}
		}
	}
}

// Map puts others in the place of those that come up.
func Map[T, U any](s iter.Seq[T], to func(x T) U) iter.Seq[U] {
	return func(yield func(U) bool) {
		if s == nil || to == nil {
			return
		}
		for x := range s {
			if !yield(to(x)) {
				return
			}
		}
	}
}

// Flat puts all that an iterator tells in the place of each that comes up.
func Flat[T, U any](s iter.Seq[T], to func(x T) iter.Seq[U]) iter.Seq[U] {
	return func(yield func(U) bool) {
		if s == nil || to == nil {
			return
		}
		for x := range s {
			if !tell(to(x), yield) {
				return
			}
		}
	}
}

// Then tells what several iterators do, one behind the other.
func Then[T any](l ...iter.Seq[T]) iter.Seq[T] {
	// Whoever made the list may change it.
	own := append([]iter.Seq[T](nil), l...)
	return func(yield func(T) bool) {
		for _, s := range own {
			if !tell(s, yield) {
				return
			}
		}
	}
}

// tell tells all of an iterator (of nil: nothing); false, if it was told to stop.
func tell[T any](s iter.Seq[T], yield func(T) bool) bool {
	if s == nil {
		return true
	}
	for x := range s {
		if !yield(x) {
			return false
		}
	}
	return true
}

// Pairs tells the first of both, the second of both, and so on, as long as both tell.
func Pairs[T, U any](s iter.Seq[T], t iter.Seq[U]) iter.Seq2[T, U] {
	return func(yield func(T, U) bool) {
		if s == nil || t == nil {
			return
		}
		told := 0
		var ready []U // what t tells behind those that were told
		for x := range s {
			if len(ready) == 0 {
				ready = stretch(t, told, atOnce(told))
			}
			if len(ready) == 0 || !yield(x, ready[0]) {
				return
			}
			told++
			ready = ready[1:]
		}
	}
}

// atOnce is how many more of t are asked when so many were told. As t is gone through from its beginning each time, they become more and more: else long lists would take their length squared. Short ones are asked for nothing that is not told.
func atOnce(told int) int { return 1 + told/16 }

// stretch is the n that an iterator tells behind the first skip of it; fewer, if it ends.
func stretch[T any](s iter.Seq[T], skip, n int) []T {
	var l []T
	for x := range Most(s, skip+n) {
		if skip > 0 {
			skip--
		} else {
			l = append(l, x)
		}
	}
	return l
}
