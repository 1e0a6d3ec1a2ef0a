// Package tags is layer 1: places in an order, told apart by numbers: see DOC.md and doc/01-tags.md.
package tags

import "espalier/api"

// List is tags in an order; the zero List has none but 0. It is handed on by its pointer: a copy of it would share its tags.
type List struct {
	places map[api.Tag]*place
	head   place // what 0 stands for; it lies outside the map, so that the zero List has it and Len need not leave it out
	given  uint64
	writes uint64
}

// place is where a tag stands: its label, and links to its neighbours (prev of the first is the head, next of the last is nil).
type place struct {
	tag        api.Tag
	label      uint64
	prev, next *place
}

// After puts a further tag right behind one (behind 0: ahead of all).
func (l *List) After(t api.Tag) (api.Tag, api.Errno) {
	ahead := l.find(t)
	if ahead == nil {
		return 0, api.ErrTag
	}
	if len(l.places) >= api.MaxTags {
		return 0, api.ErrFull
	}
	p := l.give(ahead)
	l.number(p)
	return p.tag, api.OK
}

// Drop takes a tag away. The labels of the others stay: the gap that it leaves is used as it is.
func (l *List) Drop(t api.Tag) api.Errno {
	p := l.places[t]
	if p == nil {
		return api.ErrTag
	}
	p.prev.next = p.next
	if p.next != nil {
		p.next.prev = p.prev
	}
	delete(l.places, t)
	return api.OK
}

// Label is a tag's number; it rises along the order.
func (l *List) Label(t api.Tag) (uint64, api.Errno) {
	p := l.find(t)
	if p == nil {
		return 0, api.ErrTag
	}
	return p.label, api.OK
}

// Order tells which of two comes first: -1, if a does.
func (l *List) Order(a, b api.Tag) (int, api.Errno) {
	p, q := l.find(a), l.find(b)
	switch {
	case p == nil || q == nil:
		return 0, api.ErrTag
	case p.label < q.label:
		return -1, api.OK
	case p.label > q.label:
		return 1, api.OK
	}
	return 0, api.OK
}

// Next is the neighbour behind (0: none).
func (l *List) Next(t api.Tag) (api.Tag, api.Errno) {
	p := l.find(t)
	if p == nil {
		return 0, api.ErrTag
	}
	return tagOf(p.next), api.OK
}

// Prev is the neighbour ahead (0: none).
func (l *List) Prev(t api.Tag) (api.Tag, api.Errno) {
	p := l.find(t)
	if p == nil {
		return 0, api.ErrTag
	}
	return tagOf(p.prev), api.OK
}

// Len is how many tags there are, Given how many were ever given, Writes how often a number was given to a tag.
func (l *List) Len() int       { return len(l.places) }
func (l *List) Given() uint64  { return l.given }
func (l *List) Writes() uint64 { return l.writes }

// find is where a tag, or 0, stands; nil, if it is not there.
func (l *List) find(t api.Tag) *place {
	if t == 0 {
		return &l.head
	}
	return l.places[t]
}

// give links a further tag in right behind a place. It has no label yet.
func (l *List) give(ahead *place) *place {
	if l.places == nil {
		l.places = map[api.Tag]*place{}
	}
	l.given++
	p := &place{tag: api.Tag(l.given), prev: ahead, next: ahead.next}
	ahead.next = p
	if p.next != nil {
		p.next.prev = p
	}
	l.places[p.tag] = p
	return p
}

func tagOf(p *place) api.Tag {
	if p == nil {
		return 0
	}
	return p.tag
}
