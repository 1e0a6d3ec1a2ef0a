package ordered

import (
	"slices"

	"espalier/api"
)

// Merge is the elements of several lists in one order, each as often as it stands in them.
func Merge[T any](less func(a, b T) bool, ls ...[]T) ([]T, api.Errno) {
	if less == nil {
		return nil, api.ErrArg
	}
	room := api.MaxPlaced
	for _, l := range ls {
		if len(l) > room {
			return nil, api.ErrLong
		}
		room -= len(l)
	}
	return made(less, ls, func() []T { return merged(less, ls) })
}

// Both is the elements of a with which one of b is one.
func Both[T any](less func(a, b T) bool, a, b []T) ([]T, api.Errno) {
	if less == nil {
		return nil, api.ErrArg
	}
	if len(a) > api.MaxPlaced || len(b) > api.MaxPlaced {
		return nil, api.ErrLong
	}
	return made(less, [][]T{a, b}, func() []T { return common(less, a, b) })
}

// made is what is made of lists that rise; of others nothing. A less that panics is an argument that can't be, as one that is nil.
func made[T any](less func(a, b T) bool, ls [][]T, work func() []T) (out []T, why api.Errno) {
	told := asked(func() {
		for _, l := range ls {
			if !rises(less, l) {
				why = api.ErrOrder
				return
			}
		}
		out = work()
	})
	if !told {
		return nil, api.ErrArg
	}
	return out, why
}

// merged merges by halves, so that no element is gone through too often, however many lists there are.
func merged[T any](less func(a, b T) bool, ls [][]T) []T {
	switch len(ls) {
	case 0:
		return nil
	case 1:
		return slices.Clone(ls[0])
	}
	half := len(ls) / 2
	return mergedTwo(less, merged(less, ls[:half]), merged(less, ls[half:]))
}

// mergedTwo is the elements of both in the order, those of a ahead of those of b with which they are one.
func mergedTwo[T any](less func(a, b T) bool, a, b []T) []T {
	out := make([]T, 0, len(a)+len(b))
	for len(a) > 0 && len(b) > 0 {
		if less(b[0], a[0]) {
			out, b = append(out, b[0]), b[1:]
		} else {
			out, a = append(out, a[0]), a[1:]
		}
	}
	return append(append(out, a...), b...)
}

// common is the elements of a with which one of b is one.
func common[T any](less func(a, b T) bool, a, b []T) []T {
	var out []T
	for _, x := range a {
		for len(b) > 0 && less(b[0], x) {
			b = b[1:]
		}
		if len(b) > 0 && !less(x, b[0]) {
			out = append(out, x)
		}
	}
	return out
}
