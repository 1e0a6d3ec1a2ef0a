package ordered_test

import (
	"iter"
	"slices"
	"testing"

	"espalier/api"
	"espalier/ordered"
)

// values is All without its numbers.
func values[T any](l *ordered.List[T]) iter.Seq[T] {
	return func(yield func(T) bool) {
		for _, x := range l.All() {
			if !yield(x) {
				return
			}
		}
	}
}

// goings is every way to go through a list of the numbers 0 to 9 by fives: what is told, and of what.
func goings(l *ordered.List[int]) map[string]iter.Seq[int] {
	return map[string]iter.Seq[int]{"All": values(l), "From": l.From(5), "Back": l.Back(5)}
}

// told is what the way of that name tells of elements that rise.
func told(name string, rise []int) []int {
	at := slices.IndexFunc(rise, func(x int) bool { return x >= 5 })
	if at < 0 {
		at = len(rise)
	}
	switch name {
	case "From":
		return rise[at:]
	case "Back":
		ahead := slices.Clone(rise[:at])
		slices.Reverse(ahead)
		return ahead
	}
	return rise
}

// P7.2: what All, From and Back answer goes through what is there when it is ranged over, each time anew.
func TestRangedAnew(t *testing.T) {
	l := newList(t, rising)
	ways := goings(l)
	check := func(rise ...int) {
		t.Helper()
		for name, way := range ways {
			equal(t, name, slices.Collect(way), told(name, rise))
			equal(t, name+" again", slices.Collect(way), told(name, rise))
		}
	}
	check()
	put(t, l, 4)
	check(4)
	put(t, l, 8)
	put(t, l, 5)
	put(t, l, 2)
	check(2, 4, 5, 8)
	l.Drop(5)
	check(2, 4, 8)
	l.Drop(4)
	l.Drop(2)
	check(8)
	l.Drop(8)
	check()
}

// P7.2: Put and Drop while one is ranged over change nothing in that one; they are done for all the others.
func TestChangedWhileRanged(t *testing.T) {
	whole := upTo(10)
	for at := range 10 {
		for x := -1; x <= 10; x++ {
			for name := range goings(newList(t, rising)) {
				l := newList(t, rising, whole...)
				way := goings(l)[name]
				var got []int
				for y := range way {
					if got = append(got, y); len(got) == at+1 && !l.Drop(x) {
						put(t, l, x)
					}
				}
				equal(t, name, got, told(name, whole))
				want := whole
				if len(got) > at {
					want = without(whole, x)
				}
				holds(t, l, want...)
				equal(t, name+" thereafter", slices.Collect(way), told(name, want))
			}
		}
	}
}

// without is these numbers without one; with it, if it is none of them.
func without(rise []int, x int) []int {
	i, there := slices.BinarySearch(rise, x)
	if there {
		return slices.Delete(slices.Clone(rise), i, i+1)
	}
	return slices.Insert(slices.Clone(rise), i, x)
}

// P7.2: a list may be emptied, filled and ranged over while it is ranged over, and each range keeps to what was there as it began.
func TestRangedWithin(t *testing.T) {
	l := newList(t, rising, 0, 1, 2, 3)
	var outer, inner [][]int
	for i := range 3 {
		var got []int
		for _, x := range l.All() {
			got = append(got, x)
			var in []int
			for y := range l.From(x) {
				in = append(in, y)
				l.Drop(y)
				l.Put(10*(i+1) + y)
			}
			inner = append(inner, in)
		}
		outer = append(outer, got)
	}
	if want := []int{0, 1, 2, 3}; !slices.Equal(outer[0], want) || !slices.Equal(inner[0], want) {
		t.Error(outer, inner)
	}
	equal(t, "inner", inner[1], []int{10, 11, 12, 13})
	if len(outer) != 3 || len(outer[1]) != 4 || len(outer[2]) != 4 || l.Len() != 4 {
		t.Error(outer, l.Len())
	}
}

// P7.2: ranges that overlap, and begin between changes, each tell what was there as they began.
func TestOverlap(t *testing.T) {
	r := dice(3)
	l := newList(t, rising)
	have := map[int]bool{}
	type open struct {
		next func() (int, bool)
		stop func()
		want []int
	}
	var ranges []open
	for range 3000 {
		x := r.IntN(10)
		switch r.IntN(5) {
		case 0, 1:
			if (l.Put(x) == api.OK) == have[x] {
				t.Fatal("Put", x)
			}
			have[x] = true
		case 2, 3:
			if l.Drop(x) != have[x] {
				t.Fatal("Drop", x)
			}
			delete(have, x)
		case 4:
			var rise []int
			for k := range 10 {
				if have[k] {
					rise = append(rise, k)
				}
			}
			name := []string{"All", "From", "Back"}[r.IntN(3)]
			want := told(name, rise)
			next, stop := iter.Pull(goings(l)[name])
			first, ok := next()
			if ok != (len(want) > 0) || ok && first != want[0] {
				t.Fatal(name, first, ok, want)
			}
			if ok {
				ranges = append(ranges, open{next, stop, want[1:]})
			}
		}
		for i := 0; i < len(ranges); i++ {
			if r.IntN(4) > 0 {
				continue
			}
			o := &ranges[i]
			y, ok := o.next()
			if ok != (len(o.want) > 0) || ok && y != o.want[0] {
				t.Fatal(y, ok, o.want)
			}
			if ok {
				o.want = o.want[1:]
			}
			if !ok || r.IntN(9) == 0 {
				o.stop()
				ranges = slices.Delete(ranges, i, i+1)
				i--
			}
		}
	}
	for _, o := range ranges {
		o.stop()
	}
}

// P7.2: who has enough is told no more.
func TestEnough(t *testing.T) {
	l := newList(t, rising, upTo(10)...)
	for name, way := range goings(l) {
		for most := 1; most <= 6; most++ {
			var got []int
			way(func(x int) bool {
				got = append(got, x)
				return len(got) < most
			})
			want := told(name, upTo(10))
			equal(t, name, got, want[:min(most, len(want))])
		}
	}
	n := 0
	l.All()(func(i, x int) bool {
		n++
		return false
	})
	if n != 1 {
		t.Error("All went on:", n)
	}
}

// P7.2: what is ranged over is not what panics: that goes through, and the list is of use.
func TestBodyPanics(t *testing.T) {
	l := newList(t, rising, upTo(10)...)
	for name, way := range goings(l) {
		func() {
			defer func() {
				if r := recover(); r != "mine" {
					t.Error(name, r)
				}
			}()
			for range way {
				panic("mine")
			}
		}()
		holds(t, l, upTo(10)...)
		if !l.Drop(3) || l.Put(3) != api.OK {
			t.Error(name)
		}
		holds(t, l, upTo(10)...)
	}
}

// P7.2: From and Back begin at x as at a place between the elements, whether it is there or not, and at the ends.
func TestFromBackEdges(t *testing.T) {
	l := newList(t, rising, 10, 20, 30)
	for _, x := range []struct {
		at         int
		from, back []int
	}{
		{-5, []int{10, 20, 30}, nil},
		{10, []int{10, 20, 30}, nil},
		{11, []int{20, 30}, []int{10}},
		{20, []int{20, 30}, []int{10}},
		{29, []int{30}, []int{20, 10}},
		{30, []int{30}, []int{20, 10}},
		{31, nil, []int{30, 20, 10}},
	} {
		equal(t, "From", from(l, x.at), x.from)
		equal(t, "Back", back(l, x.at), x.back)
		if n := l.Rank(x.at); n != len(x.back) {
			t.Error(x.at, n)
		}
	}
}
