package axis_test

import (
	"math"
	"math/rand/v2"
	"slices"
	"testing"

	"espalier/api"
	"espalier/axis"
)

func sp(begin, end uint64, level int) api.Span {
	return api.Span{Begin: begin, End: end, Level: level}
}

func dice(seed uint64) *rand.Rand { return rand.New(rand.NewPCG(seed, 9)) }

// every is all spans of these labels and levels, those that can't be too.
func every(labels []uint64, levels []int) []api.Span {
	var l []api.Span
	for _, b := range labels {
		for _, e := range labels {
			for _, v := range levels {
				l = append(l, sp(b, e, v))
			}
		}
	}
	return l
}

// edges is spans of the numbers at which something ends, turns or wraps, with enough small ones that they nest.
func edges() []api.Span {
	return every(
		[]uint64{0, 1, 2, 3, 1<<62 - 1, 1 << 62, 1<<62 + 1, 1 << 63, math.MaxUint64 - 1, math.MaxUint64},
		[]int{math.MinInt, math.MinInt + 1, -2, -1, 0, 1, 62, 63, 64, math.MaxInt - 1, math.MaxInt})
}

// around, possible: the chapter's words.
func around(a, b api.Span) bool { return a.Begin < b.Begin && a.End > b.End }

func possible(s api.Span) bool {
	return s.Begin >= 1 && s.End > s.Begin && s.End <= 1<<62-1 && s.Level >= 0 && s.Level <= 63
}

// oneMore tells whether b is one more than a, as whole numbers.
func oneMore(a, b int) bool {
	if a == math.MaxInt {
		return false
	}
	return b == a+1
}

// test is one of the seven, by its name, its number as a relation, and as the chapter says it.
type test struct {
	name   string
	number int
	is     func(a, b api.Span) bool
	want   func(a, b api.Span) bool
}

// tests is the seven, in the order in which Relation asks.
func tests() []test {
	parent := func(a, b api.Span) bool { return around(a, b) && oneMore(a.Level, b.Level) }
	return []test{
		{"Self", 1, axis.Self, func(a, b api.Span) bool { return a.Begin == b.Begin && a.End == b.End }},
		{"Parent", 2, axis.Parent, parent},
		{"Child", 3, axis.Child, func(a, b api.Span) bool { return parent(b, a) }},
		{"Ancestor", 4, axis.Ancestor, around},
		{"Descendant", 5, axis.Descendant, func(a, b api.Span) bool { return around(b, a) }},
		{"Following", 6, axis.Following, func(a, b api.Span) bool { return a.Begin > b.End }},
		{"Preceding", 7, axis.Preceding, func(a, b api.Span) bool { return b.Begin > a.End }},
	}
}

func check(t *testing.T, l []api.Span, at int, why api.Errno) {
	t.Helper()
	was := slices.Clone(l)
	if i, e := axis.Check(l); i != at || e != why {
		t.Fatalf("Check of %s: %d, %d; want %d, %d", short(l), i, e, at, why)
	}
	if !slices.Equal(l, was) {
		t.Fatal("Check changed its list")
	}
}

func short(l []api.Span) any {
	if len(l) > 20 {
		return len(l)
	}
	return l
}

// chain is n spans, one in the other.
func chain(n int) []api.Span {
	var l []api.Span
	for i := range n {
		l = append(l, sp(uint64(1+i), uint64(2*n-i), i))
	}
	return l
}

// row is n spans, one behind the other.
func row(n int) []api.Span {
	var l []api.Span
	for i := range n {
		l = append(l, sp(uint64(2*i+1), uint64(2*i+2), 0))
	}
	return l
}

// forest is the spans of n nodes, each somewhere in or behind the one ahead, with gaps between the labels.
func forest(r *rand.Rand, n, deep int) []api.Span {
	var l []api.Span
	var open []int
	last := uint64(0)
	next := func() uint64 {
		last += 1 + uint64(r.IntN(3))
		return last
	}
	for i := range n {
		for len(open) > 0 && (len(open) == deep || r.IntN(3) == 0) {
			l[open[len(open)-1]].End = next()
			open = open[:len(open)-1]
		}
		l = append(l, sp(next(), 0, len(open)))
		open = append(open, i)
	}
	for _, i := range slices.Backward(open) {
		l[i].End = next()
	}
	return l
}
