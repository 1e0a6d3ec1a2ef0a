package ordered_test

import (
	"math/rand/v2"
	"slices"
	"testing"

	"espalier/api"
	"espalier/ordered"
)

// card is an element that is told from those with which it is one: the order goes by its key alone.
type card struct{ key, id int }

func byKey(a, b card) bool { return a.key < b.key }

func rising(a, b int) bool { return a < b }

func dice(seed uint64) *rand.Rand { return rand.New(rand.NewPCG(seed, 7)) }

func newList[T any](t *testing.T, less func(a, b T) bool, xs ...T) *ordered.List[T] {
	t.Helper()
	l, e := ordered.New(less)
	if l == nil || e != api.OK {
		t.Fatalf("New: %v, %d", l, e)
	}
	for _, x := range xs {
		put(t, l, x)
	}
	return l
}

func put[T any](t *testing.T, l *ordered.List[T], x T) {
	t.Helper()
	if e := l.Put(x); e != api.OK {
		t.Fatalf("Put(%v): %d", x, e)
	}
}

// all is what All tells; its numbers must be those from 0.
func all[T any](t *testing.T, l *ordered.List[T]) []T {
	t.Helper()
	var out []T
	for i, x := range l.All() {
		if i != len(out) {
			t.Errorf("All: %v has the number %d; want %d", x, i, len(out))
		}
		out = append(out, x)
	}
	return out
}

func from[T any](l *ordered.List[T], x T) []T { return slices.Collect(l.From(x)) }

func back[T any](l *ordered.List[T], x T) []T { return slices.Collect(l.Back(x)) }

func holds[T comparable](t *testing.T, l *ordered.List[T], want ...T) {
	t.Helper()
	if got := all(t, l); !slices.Equal(got, want) || l.Len() != len(want) {
		t.Errorf("the list holds %v, %d in all; want %v", got, l.Len(), want)
	}
}

func equal[T comparable](t *testing.T, what string, got, want []T) {
	t.Helper()
	if !slices.Equal(got, want) {
		t.Errorf("%s: %v; want %v", what, got, want)
	}
}

// upTo is the numbers from 0, n of them.
func upTo(n int) []int {
	var out []int
	for i := range n {
		out = append(out, i)
	}
	return out
}

// heap is elements in no order, of which everything is told by going through all: the list's words without its order.
type heap struct {
	less func(a, b card) bool
	l    []card
}

// find is the number of the element that is one with x; -1, if none is.
func (h *heap) find(x card) int {
	return slices.IndexFunc(h.l, func(y card) bool { return !h.less(x, y) && !h.less(y, x) })
}

func (h *heap) put(x card) api.Errno {
	if h.find(x) >= 0 {
		return api.ErrTwice
	}
	if len(h.l) >= 8192 {
		return api.ErrLong
	}
	h.l = append(h.l, x)
	return api.OK
}

func (h *heap) drop(x card) bool {
	i := h.find(x)
	if i >= 0 {
		h.l[i] = h.l[len(h.l)-1]
		h.l = h.l[:len(h.l)-1]
	}
	return i >= 0
}

// lesser is those that are less than x, by how many are less than each.
func (h *heap) lesser(x card) []card { return h.sorted(func(y card) bool { return h.less(y, x) }) }

// others is those that are not.
func (h *heap) others(x card) []card { return h.sorted(func(y card) bool { return !h.less(y, x) }) }

// sorted is those that are meant, each at the place that is how many of them are less.
func (h *heap) sorted(means func(card) bool) []card {
	var some []card
	for _, x := range h.l {
		if means(x) {
			some = append(some, x)
		}
	}
	out := make([]card, len(some))
	for _, x := range some {
		n := 0
		for _, y := range some {
			if h.less(y, x) {
				n++
			}
		}
		out[n] = x
	}
	return out
}

// agree holds all that a list tells against a heap, at every one of these keys.
func agree(t *testing.T, l *ordered.List[card], h *heap, keys []int) {
	t.Helper()
	want := h.sorted(func(card) bool { return true })
	holds(t, l, want...)
	for i := -2; i < len(want)+2; i++ {
		x, ok := l.At(i)
		if in := i >= 0 && i < len(want); ok != in || in && x != want[i] || !in && x != (card{}) {
			t.Errorf("At(%d): %v, %t of %v", i, x, ok, want)
		}
	}
	for _, k := range keys {
		x := card{k, -1}
		ahead, rest := h.lesser(x), h.others(x)
		if got := l.Rank(x); got != len(ahead) {
			t.Errorf("Rank(%d): %d of %v", k, got, want)
		}
		if got := l.Has(x); got != (h.find(x) >= 0) {
			t.Errorf("Has(%d): %t of %v", k, got, want)
		}
		equal(t, "From", from(l, x), rest)
		slices.Reverse(ahead)
		equal(t, "Back", back(l, x), ahead)
	}
}
