package walk_test

import (
	"iter"
	"slices"
	"testing"

	"espalier/walk"
)

// P10.2: the first of both, the second of both, as long as both tell, whichever is longer.
func TestPairs(t *testing.T) {
	lengths := append(upTo(8), 15, 16, 17, 18, 19, 31, 32, 33, 34, 35, 36, 48, 49, 50, 200)
	for _, m := range lengths {
		for _, n := range lengths {
			letters := walk.Map(slices.Values(upTo(n)), func(x int) string { return string(rune(1000 + x)) })
			pairs := walk.Pairs(slices.Values(upTo(m)), letters)
			for range 2 {
				x, y := apart(pairs)
				equal(t, "the first ones", x, upTo(min(m, n)))
				equal(t, "the second ones", y, slices.Collect(letters)[:min(m, n)])
			}
		}
	}
}

// P10.2: of the first one at most one more is asked than the second one tells; of neither anything, where there is none.
func TestPairsAsked(t *testing.T) {
	for m := range 70 {
		for n := range 70 {
			s, u := &tap{most: m}, &tap{most: n}
			apart(walk.Pairs(s.seq(), u.seq()))
			want := min(m, n+1)
			ended := 0
			if m <= n {
				ended = 1
			}
			s.did(t, "the first", 1, want, 1-ended, ended)
			if m == 0 && u.begun > 0 {
				t.Error("the second one was asked for nothing")
			}
		}
	}
}

// P10.2: one, or both, may never end.
func TestPairsEver(t *testing.T) {
	for _, n := range []int{0, 1, 5, 40} {
		for _, x := range [][2]int{{-1, n}, {n, -1}} {
			s, u := &tap{most: x[0]}, &tap{most: x[1]}
			l, m := apart(walk.Pairs(s.seq(), u.seq()))
			equal(t, "the first ones", l, upTo(n))
			equal(t, "the second ones", m, upTo(n))
		}
	}
	s, u := &tap{most: -1}, &tap{most: -1}
	n := 0
	for x, y := range walk.Pairs(s.seq(), u.seq()) {
		if x != y || x != n {
			t.Fatal(x, y, n)
		}
		if n++; n == 1000 {
			break
		}
	}
	s.did(t, "the first", 1, 1000, 1, 0)
	if u.stopped != u.begun {
		t.Error("the second one is not stopped:", u)
	}
}

// P10.2: who has enough is told no more, and no more is asked of the first one.
func TestPairsStop(t *testing.T) {
	for most := 1; most < 40; most++ {
		s, u := &tap{most: 50}, &tap{most: 50}
		n := 0
		walk.Pairs(s.seq(), u.seq())(func(x, y int) bool {
			if n >= most || x != n || y != n {
				t.Fatal(x, y, n, most)
			}
			n++
			return n < most
		})
		s.did(t, "the first", 1, most, 1, 0)
	}
}

// P10.2: long lists take no longer than they are long, some times over.
func TestPairsLong(t *testing.T) {
	const n = 1 << 18
	s, u := &tap{most: n}, &tap{most: n}
	count := 0
	for x, y := range walk.Pairs(s.seq(), u.seq()) {
		if x != y {
			t.Fatal(x, y)
		}
		count++
	}
	if count != n {
		t.Error(count)
	}
	s.did(t, "the first", 1, n, 0, 1)
	if u.asked > 20*n {
		t.Error("the second one was asked for", u.asked)
	}
}

// P10.2: short ones ask the second one for nothing behind what is told.
func TestPairsShort(t *testing.T) {
	for n := range 16 {
		var u iter.Seq[int] = func(yield func(int) bool) {
			for i := range n {
				if !yield(i) {
					return
				}
			}
			panic("too far")
		}
		x, y := apart(walk.Pairs(slices.Values(upTo(n)), u))
		equal(t, "the first ones", x, upTo(n))
		equal(t, "the second ones", y, upTo(n))
	}
}
