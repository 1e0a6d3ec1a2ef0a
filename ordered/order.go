package ordered

import "sort"

// asked runs what asks an order; false, if that panicked, and so did not tell.
func asked(ask func()) (told bool) {
	defer func() { recover() }()
	ask()
	return true
}

// place is how many of items, which rise, are less than x, and whether the one behind these is one with x. If less panics, nothing is told.
func place[T any](less func(a, b T) bool, items []T, x T) (at int, there, told bool) {
	told = asked(func() {
		n := sort.Search(len(items), func(i int) bool { return !less(items[i], x) })
		there = n < len(items) && !less(x, items[n])
		at = n
	})
	return at, there, told
}

// rises tells whether no element is less than the one ahead.
func rises[T any](less func(a, b T) bool, l []T) bool {
	for i := 1; i < len(l); i++ {
		if less(l[i], l[i-1]) {
			return false
		}
	}
	return true
}
