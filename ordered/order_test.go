package ordered_test

import (
	"slices"
	"testing"

	"espalier/api"
	"espalier/ordered"
	"espalier/tags"
)

// key is what an order goes by that becomes another number.
type key struct{ n int }

func live(a, b *key) bool { return a.n < b.n }

// P7.6: when all numbers become others in the same order, the list tells the same.
func TestLive(t *testing.T) {
	r := dice(5)
	var keys []*key
	for i := range 50 {
		keys = append(keys, &key{i})
	}
	mixed := slices.Clone(keys)
	r.Shuffle(len(mixed), func(i, j int) { mixed[i], mixed[j] = mixed[j], mixed[i] })
	l := newList(t, live, mixed[:25]...)
	in := func(k *key) bool { return slices.Contains(mixed[:25], k) }
	for range 20 {
		n := r.IntN(1000) - 5000
		for _, k := range keys {
			n += 1 + r.IntN(300)
			k.n = n
		}
		var here []*key
		for i, k := range keys {
			if got := l.Has(k); got != in(k) {
				t.Fatal(i, got)
			}
			if got := l.Rank(k); got != len(here) {
				t.Fatal(i, got, len(here))
			}
			if in(k) {
				if e := l.Put(k); e != api.ErrTwice {
					t.Fatal(e)
				}
				if x, ok := l.At(len(here)); x != k || !ok {
					t.Fatal(i, x, ok)
				}
				here = append(here, k)
			}
		}
		holds(t, l, here...)
		for i, k := range here {
			equal(t, "From", from(l, k), here[i:])
			ahead := slices.Clone(here[:i])
			slices.Reverse(ahead)
			equal(t, "Back", back(l, k), ahead)
		}
		k := mixed[r.IntN(25)]
		if !l.Drop(k) || l.Drop(k) || l.Put(k) != api.OK {
			t.Fatal(k)
		}
	}
}

// P7.6: also while it is ranged over; where From and Back begin is asked when they are.
func TestLiveWhileRanged(t *testing.T) {
	keys := []*key{{0}, {1}, {2}, {3}}
	l := newList(t, live, keys...)
	fromTwo, backTwo := l.From(keys[2]), l.Back(keys[2])
	further := func() {
		for _, k := range keys {
			k.n += 100
		}
	}
	var got []*key
	for _, k := range l.All() {
		got = append(got, k)
		further()
	}
	for k := range fromTwo {
		got = append(got, k)
		further()
	}
	for k := range backTwo {
		got = append(got, k)
		further()
	}
	equal(t, "all ranges", got, []*key{keys[0], keys[1], keys[2], keys[3], keys[2], keys[3], keys[1], keys[0]})
	x := &key{keys[1].n}
	seq := l.From(x)
	x.n = keys[3].n
	equal(t, "From of what became another one", slices.Collect(seq), keys[3:])
}

// P7.6: by labels that are given anew whenever a gap closes.
func TestLiveLabels(t *testing.T) {
	var order tags.List
	first, _ := order.After(0)
	last, _ := order.After(first)
	label := func(x api.Tag) uint64 {
		n, _ := order.Label(x)
		return n
	}
	l := newList(t, func(a, b api.Tag) bool { return label(a) < label(b) }, last, first)
	rewritten := 0
	for i := range 2000 {
		was := order.Writes()
		x, _ := order.After(first)
		if order.Writes() > was+1 {
			rewritten++
		}
		if i%3 == 0 {
			put(t, l, x)
		}
		if i%9 == 0 {
			if !l.Drop(x) || l.Has(x) || l.Rank(x) != 1 {
				t.Fatal(i)
			}
		}
	}
	if rewritten < 5 {
		t.Error("too few relabels:", rewritten)
	}
	ranks, prev := 0, api.Tag(0)
	for i, x := range l.All() {
		if o, _ := order.Order(prev, x); i != ranks || o != -1 || l.Rank(x) != i || !l.Has(x) {
			t.Fatal(i, x, o)
		}
		ranks, prev = ranks+1, x
	}
	if ranks != l.Len() || prev != last {
		t.Error(ranks, l.Len(), prev)
	}
}

// everything makes every call with these numbers; none may panic.
func everything(l *ordered.List[int], less func(a, b int) bool) {
	for _, x := range []int{3, 1, 2, 1, 3, 0, 5, 4} {
		l.Put(x)
		l.Has(x)
		l.Rank(x)
		l.At(x)
		for y := range l.From(x) {
			if y == 3 {
				l.Drop(y)
			}
		}
		for y := range l.Back(x) {
			l.Put(y + 10)
			if l.Len() > 100 {
				break
			}
		}
		for i := range l.All() {
			l.At(i)
		}
	}
	for _, x := range []int{1, 9, 4} {
		l.Drop(x)
		l.Len()
	}
	ordered.Merge(less, []int{1, 2}, nil, []int{3, 1}, []int{2, 2, 2}, []int{0})
	ordered.Merge(less, []int{5, 5}, []int{5, 5, 5})
	ordered.Both(less, []int{1, 2, 3}, []int{3, 4})
	ordered.Both(less, []int{5, 5}, []int{5, 5, 5})
}

// A less that is no order: each call ends, none panics.
func TestNoOrder(t *testing.T) {
	r := dice(6)
	asked := 0
	for name, less := range map[string]func(a, b int) bool{
		"always":  func(a, b int) bool { return true },
		"never":   func(a, b int) bool { return false },
		"in turn": func(a, b int) bool { return (b-a+300)%3 == 1 },
		"chance":  func(a, b int) bool { return r.IntN(2) == 0 },
		"not":     func(a, b int) bool { return a <= b },
		"now and then": func(a, b int) bool {
			asked++
			return asked%3 == 0
		},
		"panics":         func(a, b int) bool { panic("no order") },
		"panics of none": func(a, b int) bool { panic(nil) },
		"panics by chance": func(a, b int) bool {
			if r.IntN(3) == 0 {
				panic(r)
			}
			return a < b
		},
		"panics of some": func(a, b int) bool { return 7/(a-2) < 7/(b-2) },
	} {
		t.Run(name, func(t *testing.T) {
			for range 100 {
				everything(newList(t, less), less)
			}
		})
	}
	var zero ordered.List[int]
	everything(&zero, rising)
}

// A less that panics tells nothing: nothing is changed, and nothing answered.
func TestOrderPanics(t *testing.T) {
	left := -1 // how often it is asked until it panics; below 0: for ever
	less := func(a, b int) bool {
		if left == 0 {
			panic("asked too often")
		}
		left--
		return a < b
	}
	for n := range 3 { // of seven elements it is asked of three at least
		left = -1
		l := newList(t, less, 1, 3, 5, 7, 9, 11, 13)
		for x := range 15 {
			for name, call := range map[string]func() bool{
				"Put":  func() bool { return l.Put(x) == api.ErrArg },
				"Drop": func() bool { return !l.Drop(x) },
				"Has":  func() bool { return !l.Has(x) },
				"Rank": func() bool { return l.Rank(x) == 0 },
				"From": func() bool { return len(from(l, x)) == 0 },
				"Back": func() bool { return len(back(l, x)) == 0 },
			} {
				left = n
				if fine := call(); !fine {
					t.Errorf("%s(%d), in which less panics when it was asked %d times", name, x, n)
				}
			}
			left = 0
			holds(t, l, 1, 3, 5, 7, 9, 11, 13)
		}
		left = -1
		put(t, l, 2)
		holds(t, l, 1, 2, 3, 5, 7, 9, 11, 13)
	}
	for n := range 5 { // of these lists, of each neighbour first, then of both
		left = n
		if out, e := ordered.Merge(less, []int{1, 2, 3}, []int{1, 2}); len(out) != 0 || e != api.ErrArg {
			t.Error(n, out, e)
		}
		left = n
		if out, e := ordered.Both(less, []int{1, 2, 3}, []int{1, 2}); len(out) != 0 || e != api.ErrArg {
			t.Error(n, out, e)
		}
	}
}

// A less that changes the list while it is asked: each call ends, none panics, and what is there rises.
func TestOrderChanges(t *testing.T) {
	for name, change := range map[string]func(l *ordered.List[int]){
		"drops":     func(l *ordered.List[int]) { l.Drop(6) },
		"drops all": func(l *ordered.List[int]) { drain(l) },
		"puts":      func(l *ordered.List[int]) { l.Put(-1); l.Put(5); l.Put(20) },
		"both":      func(l *ordered.List[int]) { l.Drop(2); l.Put(7) },
		"moves":     func(l *ordered.List[int]) { l.Drop(8); l.Put(-3) },
		"and looks": func(l *ordered.List[int]) { l.Drop(2); l.Put(-2); from(l, 3); l.Drop(4) },
	} {
		for x := -1; x < 14; x++ {
			for when := range 6 {
				left := -1
				var l *ordered.List[int]
				l = newList(t, func(a, b int) bool {
					if left--; left == 0 {
						change(l)
					}
					return a < b
				}, 0, 2, 4, 6, 8, 10, 12)
				for _, call := range []func(){
					func() { l.Put(x) }, func() { l.Drop(x) }, func() { l.Has(x) }, func() { l.Rank(x) },
					func() { from(l, x) }, func() { back(l, x) },
				} {
					left = when + 1
					call()
					left = -1
					if got := all(t, l); !slices.IsSorted(got) || len(slices.Compact(slices.Clone(got))) != len(got) {
						t.Fatalf("%s, %d: %v", name, x, got)
					}
				}
			}
		}
	}
}

// What less told of a list that it changed meanwhile is nothing.
func TestOrderChangesTold(t *testing.T) {
	changes := false
	var l *ordered.List[int]
	l = newList(t, func(a, b int) bool {
		if changes {
			changes = false
			l.Put(1)
			l.Drop(4)
		}
		return a < b
	}, 0, 2, 4, 6)
	for name, call := range map[string]func() bool{
		"Put":  func() bool { return l.Put(5) == api.ErrArg },
		"Drop": func() bool { return !l.Drop(2) },
		"Has":  func() bool { return !l.Has(2) },
		"Rank": func() bool { return l.Rank(6) == 0 },
	} {
		changes = true
		if !call() {
			t.Error(name)
		}
		holds(t, l, 0, 1, 2, 6)
		if !l.Drop(1) {
			t.Error(name)
		}
		put(t, l, 4)
	}
}

func drain(l *ordered.List[int]) {
	for _, x := range l.All() {
		l.Drop(x)
	}
}

// From and Back tell what was there when they were ranged over, also if less changes the list then.
func TestRangedWhileChanged(t *testing.T) {
	for when := range 3 {
		left := -1
		var l *ordered.List[int]
		l = newList(t, func(a, b int) bool {
			if left--; left == 0 {
				drain(l)
			}
			return a < b
		}, 0, 2, 4, 6, 8, 10, 12)
		l.Drop(12) // so that the list has been changed since it was last ranged over
		left = when + 1
		equal(t, "From", from(l, 4), []int{4, 6, 8, 10})
		holds(t, l)
		for _, x := range []int{6, 2, 4, 8, 0} {
			put(t, l, x)
		}
		left = when + 1
		equal(t, "Back", back(l, 6), []int{4, 2, 0})
		holds(t, l)
	}
}
