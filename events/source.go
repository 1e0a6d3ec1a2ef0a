package events

import "espalier/api"

// teller is behind every source of this package: what tells its next event, until that can't; from then on how it ended.
type teller struct {
	next  api.Source
	ended api.Errno // OK: it has not
}

func (t *teller) tell() (api.Event, api.Errno) {
	if t.ended != api.OK {
		return api.Event{}, t.ended
	}
	e, why := t.next()
	if why != api.OK {
		// What told the events is let go, with all that it keeps.
		*t = teller{ended: why}
		return api.Event{}, why
	}
	return e, api.OK
}

// lasting is a source that tells what next does, and stays at its end.
func lasting(next api.Source) api.Source {
	t := &teller{next: next}
	return t.tell
}

// fails is a source that can't begin.
func fails(why api.Errno) api.Source {
	return lasting(func() (api.Event, api.Errno) { return api.Event{}, why })
}

// ask is what a source that was handed in tells next. That may keep its event, so it is told on as a copy.
func ask(s api.Source) (e api.Event, why api.Errno) {
	if s == nil {
		return api.Event{}, api.ErrArg
	}
	if !runs(func() { e, why = s() }) {
		return api.Event{}, api.ErrPanic
	}
	if why != api.OK {
		return api.Event{}, why
	}
	return own(e), api.OK
}

// runs calls what was handed in; false, if it panicked, and so did not come to its end.
func runs(call func()) (fine bool) {
	defer func() { recover() }()
	call()
	return true
}

// own is an event in memory of its own.
func own(e api.Event) api.Event {
	e.Attrs = fresh(e.Attrs)
	return e
}

// fresh is a list in memory of its own.
func fresh[T any](l []T) []T { return append([]T(nil), l...) }

// pop takes the last one off a stack; false, if there is none.
func pop[T any](stack *[]T) (T, bool) {
	var last T
	n := len(*stack)
	if n == 0 {
		return last, false
	}
	last = (*stack)[n-1]
	*stack = (*stack)[:n-1]
	return last, true
}
