package ordered

import (
	"slices"
	"testing"
)

// Nothing is kept of elements that are dropped: no answer tells it, so this test looks inside.
func TestNothingKept(t *testing.T) {
	l, _ := New(func(a, b *int) bool { return *a < *b })
	var some []*int
	for i := range 100 {
		some = append(some, &i)
		l.Put(some[i])
	}
	for i, x := range some {
		if i%10 == 0 {
			for range l.All() {
				break
			}
		}
		l.Drop(x)
		if slices.Contains(l.items[:cap(l.items)], x) {
			t.Fatal("kept:", i)
		}
	}
}
