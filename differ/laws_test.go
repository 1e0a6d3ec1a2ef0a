package differ_test

import (
	"slices"
	"testing"

	"espalier/api"
	"espalier/markup"
)

// some is three forests of at most so many nodes and 6, often near each other.
func (m maker) some(most int) [3][]api.Tree {
	var l [3][]api.Tree
	l[0] = m.forest(m.IntN(most + 1))
	for i := range l {
		if m.IntN(2) == 0 {
			l[i] = m.forest(m.IntN(most + 1))
		} else {
			l[i] = m.steps(l[0], m.IntN(7))
		}
	}
	return l
}

// P18.5: it is a distance.
func TestDistanceLaws(t *testing.T) {
	t.Parallel()
	for seed := range uint64(1000) {
		m := newMaker(seed)
		l := m.some(20)
		a, b, c := l[0], l[1], l[2]
		ab, ba, bc, ac := distance(t, a, b), distance(t, b, a), distance(t, b, c), distance(t, a, c)
		if (ab == 0) != markup.Same(a, b) {
			t.Fatalf("%s and %s: %d", plain(a), plain(b), ab)
		}
		if ab != ba || ac > ab+bc {
			t.Fatalf("%d, back %d; %d is more than %d and %d", ab, ba, ac, ab, bc)
		}
		if n, k := nodes(a), nodes(b); ab > n+k || ab < n-k || ab < k-n {
			t.Fatalf("%d, of %d and %d nodes", ab, n, k)
		}
	}
}

// P18.4, P18.5: so many steps lead no farther.
func TestDistanceOfSteps(t *testing.T) {
	t.Parallel()
	for seed := range uint64(1000) {
		m := newMaker(seed)
		a, n := m.forest(m.IntN(24)), m.IntN(8)
		if b := m.steps(a, n); distance(t, a, b) > n {
			t.Fatalf("%s and %s: %d, by %d steps", plain(a), plain(b), distance(t, a, b), n)
		}
	}
}

// P18.6: forests behind each other, and under a further node.
func TestDistanceBeside(t *testing.T) {
	t.Parallel()
	for seed := range uint64(600) {
		m := newMaker(seed)
		l := m.some(10)
		a, b, c, d := l[0], l[1], l[2], m.forest(m.IntN(10))
		both := distance(t, slices.Concat(a, c), slices.Concat(b, d))
		if ab, cd := distance(t, a, b), distance(t, c, d); both > ab+cd {
			t.Fatalf("beside each other %d; %d and %d", both, ab, cd)
		}
		x, y := with(el("n", a...), "k", "1"), with(el("n", b...), "k", "1")
		apart(t, []api.Tree{x}, []api.Tree{y}, distance(t, a, b))
	}
}
