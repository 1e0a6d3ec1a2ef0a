package events

import "espalier/api"

// Texts puts texts that stand right behind each other together, and leaves out those that are empty.
func Texts(s api.Source) api.Source {
	var behind api.Event // what came behind the texts, and is told when they are
	var why api.Errno
	waits := false
	return lasting(func() (api.Event, api.Errno) {
		var run []byte
		for !waits {
			behind, why = ask(s)
			if why != api.OK || behind.Kind != api.Words {
				waits = true
				continue
			}
			if len(run)+len(behind.Text) > api.MaxText {
				return api.Event{}, api.ErrLong
			}
			run = append(run, behind.Text...)
		}
		if len(run) > 0 {
			return api.Event{Kind: api.Words, Text: string(run)}, api.OK
		}
		waits = false
		return behind, why
	})
}

// Most lets so many events through.
func Most(s api.Source, n int) api.Source {
	if n < 0 {
		return fails(api.ErrArg)
	}
	return turn(s, func(e api.Event) (api.Event, api.Errno) {
		if n == 0 {
			return api.Event{}, api.ErrLong
		}
		n--
		return e, api.OK
	})
}

// Then tells what several sources do, one behind the other.
func Then(l ...api.Source) api.Source {
	left := fresh(l)
	return lasting(func() (api.Event, api.Errno) {
		for len(left) > 0 {
			e, why := ask(left[0])
			if why != api.ErrDone {
				return e, why
			}
			left = left[1:]
		}
		return api.Event{}, api.ErrDone
	})
}

// Drop leaves out what a function means, with all within.
func Drop(s api.Source, means func(e api.Event) bool) api.Source {
	if means == nil {
		return fails(api.ErrArg)
	}
	open := 0 // how many have begun and not ended since one was left out, that one too
	return sift(s, func(e api.Event) (bool, api.Errno) {
		if open > 0 {
			open += deeper(e)
			return false, api.OK
		}
		if e.Kind != api.Start && e.Kind != api.Words {
			return true, api.OK
		}
		out := false
		if !runs(func() { out = means(own(e)) }) {
			return false, api.ErrPanic
		}
		if out {
			open = deeper(e)
		}
		return !out, api.OK
	})
}

// deeper is how much deeper what is behind an event lies than what is ahead of it.
func deeper(e api.Event) int {
	switch e.Kind {
	case api.Start:
		return 1
	case api.End:
		return -1
	}
	return 0
}

// Bare leaves out the tags of elements whose names a function means, not what is within.
func Bare(s api.Source, means func(name string) bool) api.Source {
	if means == nil {
		return fails(api.ErrArg)
	}
	var open []bool // of each element that is open, whether it is left out
	return sift(s, func(e api.Event) (bool, api.Errno) {
		out := false
		switch e.Kind {
		case api.Start:
			if !runs(func() { out = means(e.Name) }) {
				return false, api.ErrPanic
			}
			open = append(open, out)
		case api.End:
			out, _ = pop(&open)
		}
		return !out, api.OK
	})
}

// Map puts other elements and texts in the place of those that are told.
func Map(s api.Source, to func(e api.Event) api.Event) api.Source {
	if to == nil {
		return fails(api.ErrArg)
	}
	var open []string // the names that were told of the elements that are open
	return turn(s, func(e api.Event) (api.Event, api.Errno) {
		switch e.Kind {
		case api.Start, api.Words:
			x, why := become(e, to)
			if x.Kind == api.Start {
				open = append(open, x.Name)
			}
			return x, why
		case api.End:
			if name, some := pop(&open); some {
				return api.Event{Kind: api.End, Name: name}, api.OK
			}
		}
		return e, api.OK
	})
}

// become is what a function that was handed in makes of an event: one of the same kind.
func become(e api.Event, to func(e api.Event) api.Event) (x api.Event, why api.Errno) {
	if !runs(func() { x = to(e) }) {
		return api.Event{}, api.ErrPanic
	}
	if x.Kind != e.Kind {
		return api.Event{}, api.ErrEvent
	}
	return own(x), api.OK
}

// turn is a source of what change makes of each event, until it can't.
func turn(s api.Source, change func(e api.Event) (api.Event, api.Errno)) api.Source {
	return lasting(func() (api.Event, api.Errno) {
		e, why := ask(s)
		if why != api.OK {
			return e, why
		}
		return change(e)
	})
}

// sift is a source of those events that stay, until that can't be told.
func sift(s api.Source, stays func(e api.Event) (bool, api.Errno)) api.Source {
	return lasting(func() (api.Event, api.Errno) {
		for {
			e, why := ask(s)
			if why != api.OK {
				return e, why
			}
			if yes, why := stays(e); yes || why != api.OK {
				return e, why
			}
		}
	})
}
