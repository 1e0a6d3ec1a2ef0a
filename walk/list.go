package walk

import (
	"iter"

	"espalier/api"
)

// List is all that an iterator tells.
func List[T any](s iter.Seq[T], most int) ([]T, api.Errno) {
	if s == nil || most < 0 {
		return nil, api.ErrArg
	}
	var l []T
	long := false
	fine := runs(func() {
		for x := range s {
			if len(l) == most {
				long = true
				return
			}
			l = append(l, x)
		}
	})
	switch {
	case long:
		// Also where it panics when it is told to stop.
		return nil, api.ErrLong
	case !fine:
		return nil, api.ErrPanic
	}
	return l, api.OK
}

// runs calls what was handed in; false, if it panicked, and so did not come to its end.
func runs(call func()) (fine bool) {
	defer func() { recover() }()
	call()
	return true
}
