package tags_test

import (
	"math"
	"math/rand"
	"slices"
	"testing"

	"espalier/api"
	"espalier/tags"
)

// order is the tags of a list as Next tells them.
func order(t *testing.T, l *tags.List) []api.Tag {
	t.Helper()
	got := []api.Tag{}
	for n := next(t, l, 0); n != 0; n = next(t, l, n) {
		got = append(got, n)
		if len(got) > api.MaxTags {
			t.Fatal("Next goes round")
		}
	}
	return got
}

func next(t *testing.T, l *tags.List, at api.Tag) api.Tag {
	t.Helper()
	n, e := l.Next(at)
	if e != api.OK {
		t.Fatalf("Next(%d): %d", at, e)
	}
	return n
}

// after is a further tag, which must be given and be the next number.
func after(t *testing.T, l *tags.List, at api.Tag) api.Tag {
	t.Helper()
	want := api.Tag(l.Given() + 1)
	n, e := l.After(at)
	if n != want || e != api.OK {
		t.Fatalf("After(%d): %d, %d; want %d, 0", at, n, e, want)
	}
	return n
}

func drop(t *testing.T, l *tags.List, at api.Tag) {
	t.Helper()
	if e := l.Drop(at); e != api.OK {
		t.Fatalf("Drop(%d): %d", at, e)
	}
}

func label(t *testing.T, l *tags.List, at api.Tag) uint64 {
	t.Helper()
	x, e := l.Label(at)
	if e != api.OK {
		t.Fatalf("Label(%d): %d", at, e)
	}
	return x
}

// told is all that a list tells of itself.
type told struct {
	order         []api.Tag
	labels        []uint64
	count         int
	given, writes uint64
}

func tell(t *testing.T, l *tags.List) told {
	t.Helper()
	x := told{order: order(t, l), count: l.Len(), given: l.Given(), writes: l.Writes()}
	for _, n := range x.order {
		x.labels = append(x.labels, label(t, l, n))
	}
	return x
}

func (x told) same(y told) bool {
	return slices.Equal(x.order, y.order) && slices.Equal(x.labels, y.labels) && x.count == y.count && x.given == y.given && x.writes == y.writes
}

// checkLabels holds all labels against P1.3.
func checkLabels(t *testing.T, l *tags.List) {
	t.Helper()
	if x := label(t, l, 0); x != 0 {
		t.Fatalf("Label(0): %d", x)
	}
	last := uint64(0)
	for _, n := range order(t, l) {
		x := label(t, l, n)
		if x <= last || x >= api.MaxLabel {
			t.Fatalf("Label(%d): %d, behind one of %d", n, x, last)
		}
		last = x
	}
}

// checkWrites holds Writes against P1.7.
func checkWrites(t *testing.T, l *tags.List) {
	t.Helper()
	if w, g := l.Writes(), l.Given(); w < g || w > api.RelabelFactor*62*g {
		t.Fatalf("Writes %d, Given %d", w, g)
	}
}

// full is a list of MaxTags tags, 1, 2, 3 and so on.
func full(t *testing.T) *tags.List {
	t.Helper()
	l := &tags.List{}
	last := api.Tag(0)
	for range api.MaxTags {
		last = after(t, l, last)
	}
	return l
}

func TestZeroList(t *testing.T) {
	var l tags.List
	if l.Len() != 0 || l.Given() != 0 || l.Writes() != 0 {
		t.Error(l.Len(), l.Given(), l.Writes())
	}
	if n, e := l.Next(0); n != 0 || e != api.OK {
		t.Error("Next", n, e)
	}
	if n, e := l.Prev(0); n != 0 || e != api.OK {
		t.Error("Prev", n, e)
	}
	if x, e := l.Label(0); x != 0 || e != api.OK {
		t.Error("Label", x, e)
	}
	if o, e := l.Order(0, 0); o != 0 || e != api.OK {
		t.Error("Order", o, e)
	}
	checkNotThere(t, &l, 1)
	if n := after(t, &l, 0); n != 1 {
		t.Error("After", n)
	}
}

// checkNotThere: every call that takes a tag refuses this one, and nothing is changed by it.
func checkNotThere(t *testing.T, l *tags.List, x api.Tag) {
	t.Helper()
	before := tell(t, l)
	if n, e := l.After(x); n != 0 || e != api.ErrTag {
		t.Errorf("After(%d): %d, %d", x, n, e)
	}
	if e := l.Drop(x); e != api.ErrTag {
		t.Errorf("Drop(%d): %d", x, e)
	}
	if n, e := l.Label(x); n != 0 || e != api.ErrTag {
		t.Errorf("Label(%d): %d, %d", x, n, e)
	}
	if n, e := l.Next(x); n != 0 || e != api.ErrTag {
		t.Errorf("Next(%d): %d, %d", x, n, e)
	}
	if n, e := l.Prev(x); n != 0 || e != api.ErrTag {
		t.Errorf("Prev(%d): %d, %d", x, n, e)
	}
	for _, y := range append(before.order, 0, x) {
		if o, e := l.Order(x, y); o != 0 || e != api.ErrTag {
			t.Errorf("Order(%d, %d): %d, %d", x, y, o, e)
		}
		if o, e := l.Order(y, x); o != 0 || e != api.ErrTag {
			t.Errorf("Order(%d, %d): %d, %d", y, x, o, e)
		}
	}
	if !before.same(tell(t, l)) {
		t.Errorf("a refusal of %d changed the list", x)
	}
}

func TestExampleOrder(t *testing.T) {
	var l tags.List
	after(t, &l, 0)
	after(t, &l, 0)
	after(t, &l, 1)
	if got := order(t, &l); !slices.Equal(got, []api.Tag{2, 1, 3}) {
		t.Fatal(got)
	}
	drop(t, &l, 1)
	if n, e := l.After(1); n != 0 || e != api.ErrTag {
		t.Error(n, e)
	}
	if n := after(t, &l, 3); n != 4 {
		t.Error(n)
	}
	if got := order(t, &l); !slices.Equal(got, []api.Tag{2, 3, 4}) {
		t.Error(got)
	}
}

func TestTagsThatAreNotThere(t *testing.T) {
	var l tags.List
	for range 5 {
		after(t, &l, 0)
	}
	for _, x := range []api.Tag{3, 5, 1} { // within, the first, the last one
		drop(t, &l, x)
		checkNotThere(t, &l, x)
	}
	for _, x := range []api.Tag{6, 7, api.MaxTags, api.MaxLabel, math.MaxUint64} { // never given
		checkNotThere(t, &l, x)
	}
	if e := l.Drop(0); e != api.ErrTag {
		t.Error("Drop(0):", e)
	}
	if got := order(t, &l); !slices.Equal(got, []api.Tag{4, 2}) {
		t.Error(got)
	}
}

func TestFullList(t *testing.T) {
	l := full(t)
	if l.Len() != 8192 || l.Given() != 8192 {
		t.Fatal(l.Len(), l.Given())
	}
	before := tell(t, l)
	for _, x := range []api.Tag{0, 1, 4000, api.MaxTags} {
		if n, e := l.After(x); n != 0 || e != api.ErrFull {
			t.Errorf("After(%d): %d, %d", x, n, e)
		}
	}
	if !before.same(tell(t, l)) {
		t.Error("a refusal changed the list")
	}
	// ErrTag is named ahead of ErrFull.
	checkNotThere(t, l, api.MaxTags+1)
	drop(t, l, 4000)
	if n := after(t, l, 3999); n != api.MaxTags+1 || next(t, l, n) != 4001 {
		t.Error(n)
	}
	if n, e := l.After(4000); n != 0 || e != api.ErrTag {
		t.Error(n, e)
	}
	if n, e := l.After(1); n != 0 || e != api.ErrFull {
		t.Error(n, e)
	}
}

func TestEmptiedList(t *testing.T) {
	l := full(t)
	for x := range api.Tag(api.MaxTags) {
		drop(t, l, x+1)
	}
	if l.Len() != 0 || l.Given() != api.MaxTags || next(t, l, 0) != 0 {
		t.Error(l.Len(), l.Given())
	}
	if n := after(t, l, 0); n != api.MaxTags+1 || l.Len() != 1 {
		t.Error(n, l.Len())
	}
}

func TestNeighbours(t *testing.T) {
	var l tags.List
	for _, at := range []api.Tag{0, 0, 1} { // 2, 1, 3
		after(t, &l, at)
	}
	for _, c := range []struct{ at, prev, next api.Tag }{{0, 0, 2}, {2, 0, 1}, {1, 2, 3}, {3, 1, 0}} {
		if n, e := l.Next(c.at); n != c.next || e != api.OK {
			t.Errorf("Next(%d): %d, %d", c.at, n, e)
		}
		if n, e := l.Prev(c.at); n != c.prev || e != api.OK {
			t.Errorf("Prev(%d): %d, %d", c.at, n, e)
		}
	}
}

func TestOrderOfTwo(t *testing.T) {
	var l tags.List
	for _, at := range []api.Tag{0, 0, 1} {
		after(t, &l, at)
	}
	stand := []api.Tag{0, 2, 1, 3}
	for i, a := range stand {
		for j, b := range stand {
			want := 0
			if i < j {
				want = -1
			} else if i > j {
				want = 1
			}
			if o, e := l.Order(a, b); o != want || e != api.OK {
				t.Errorf("Order(%d, %d): %d, %d", a, b, o, e)
			}
		}
	}
}

// Only After may change labels: neither Drop nor what asks.
func TestLabelsStay(t *testing.T) {
	var l tags.List
	for range 500 {
		after(t, &l, 0)
	}
	for x := api.Tag(1); x <= 500; x += 3 {
		before := tell(t, &l)
		drop(t, &l, x)
		i := slices.Index(before.order, x)
		before.order = slices.Delete(before.order, i, i+1)
		before.labels = slices.Delete(before.labels, i, i+1)
		before.count--
		if !before.same(tell(t, &l)) {
			t.Fatalf("Drop(%d) changed more", x)
		}
	}
	before := tell(t, &l)
	l.Order(2, 3)
	l.Next(2)
	l.Prev(2)
	l.Label(2)
	l.Len()
	l.Given()
	l.Writes()
	if !before.same(tell(t, &l)) {
		t.Error("asking changed the list")
	}
}

// watch keeps which labels tags were seen to have, and how often one was seen to become another one.
type watch struct {
	had      map[api.Tag]uint64
	seen     uint64
	relabels int
}

// look goes through all labels and holds Writes against what was seen.
func (w *watch) look(t *testing.T, l *tags.List) {
	t.Helper()
	now := 0
	for _, n := range order(t, l) {
		if x := label(t, l, n); x != w.had[n] { // one that is new had 0
			w.had[n] = x
			now++
		}
	}
	w.seen += uint64(now)
	if now > 1 {
		w.relabels++
	}
	if got := l.Writes(); got != w.seen {
		t.Fatalf("Writes: %d; seen: %d", got, w.seen)
	}
}

// Writes is just how often a label was seen to become another one.
func TestWritesCountsEach(t *testing.T) {
	for _, at := range []api.Tag{0, 1, 2} {
		var l tags.List
		w := watch{had: map[api.Tag]uint64{}}
		for i := range 1000 {
			after(t, &l, min(at, api.Tag(i)))
			w.look(t, &l)
		}
		if w.relabels == 0 {
			t.Error("no label was written anew: the test shows nothing of it")
		}
	}
}

// places are ways to choose where the next tag comes, by the tags in their order.
var places = []struct {
	name   string
	choose func(l *tags.List, last api.Tag) api.Tag
}{
	{"ahead of all", func(*tags.List, api.Tag) api.Tag { return 0 }},
	{"behind all", func(_ *tags.List, last api.Tag) api.Tag { return last }},
	{"behind one", func(l *tags.List, _ api.Tag) api.Tag { return min(1, api.Tag(l.Given())) }},
	{"ahead of one", func(l *tags.List, _ api.Tag) api.Tag {
		p, _ := l.Prev(1)
		return p
	}},
	{"now behind, now ahead", func(l *tags.List, last api.Tag) api.Tag {
		if last%2 == 0 {
			last, _ = l.Prev(last)
		}
		return last
	}},
	{"two places by turns", func(l *tags.List, last api.Tag) api.Tag { return last % 2 * min(1, api.Tag(l.Given())) }},
}

func TestManyAtOnePlace(t *testing.T) {
	for _, place := range places {
		t.Run(place.name, func(t *testing.T) {
			var l tags.List
			last := api.Tag(0)
			for range api.MaxTags {
				at := place.choose(&l, last)
				if l.Given() == 0 {
					at = 0
				}
				last = after(t, &l, at)
				if p, e := l.Prev(last); p != at || e != api.OK {
					t.Fatalf("Prev(%d): %d, %d; want %d", last, p, e, at)
				}
				checkWrites(t, &l)
			}
			checkLabels(t, &l)
			if l.Len() != api.MaxTags {
				t.Error(l.Len())
			}
			if n, e := l.After(last); n != 0 || e != api.ErrFull {
				t.Error(n, e)
			}
		})
	}
}

// A full list in which further tags come at one place, as others far away go.
func TestManyAtOnePlaceOfAFullList(t *testing.T) {
	for _, at := range []api.Tag{0, 1, api.MaxTags / 2, api.MaxTags} {
		l := full(t)
		far := api.Tag(0)
		for range 3 * api.MaxTags {
			far++
			if far == at {
				far++
			}
			drop(t, l, far)
			n := after(t, l, at)
			x, y := label(t, l, at), label(t, l, n)
			if x >= y || y >= api.MaxLabel {
				t.Fatalf("labels %d, %d", x, y)
			}
			checkWrites(t, l)
		}
		checkLabels(t, l)
	}
}

// A tag goes right where the next one comes: numbers must not run out though the list stays short. (Such a list is relabelled again and again; some tags get the number that they had, which is no write.)
func TestComeAndGo(t *testing.T) {
	for _, ahead := range []bool{false, true} {
		var l tags.List
		w := watch{had: map[api.Tag]uint64{}}
		a := after(t, &l, 0)
		w.look(t, &l)
		b := after(t, &l, a)
		w.look(t, &l)
		for range 10000 {
			n := after(t, &l, a)
			w.look(t, &l)
			if x, y, z := label(t, &l, a), label(t, &l, n), label(t, &l, b); x >= y || y >= z {
				t.Fatal(x, y, z)
			}
			if ahead {
				drop(t, &l, a)
				a = n
			} else {
				drop(t, &l, b)
				b = n
			}
			checkWrites(t, &l)
		}
		if got := order(t, &l); !slices.Equal(got, []api.Tag{a, b}) {
			t.Error(got)
		}
	}
}

// Tags come at the end as the first one goes: labels must not climb out of their bounds.
func TestQueue(t *testing.T) {
	for _, size := range []int{1, 2, 3, 100, api.MaxTags} {
		var l tags.List
		last := api.Tag(0)
		for range 4 * api.MaxTags {
			if l.Len() == size {
				drop(t, &l, next(t, &l, 0))
			}
			if l.Len() == 0 {
				last = 0
			}
			last = after(t, &l, last)
			if x := label(t, &l, last); x == 0 || x >= api.MaxLabel {
				t.Fatalf("Label(%d): %d", last, x)
			}
			checkWrites(t, &l)
		}
		checkLabels(t, &l)
		if l.Len() != size {
			t.Error(l.Len())
		}
	}
}

// Each further tag comes where the gap is smallest.
func TestSmallestGap(t *testing.T) {
	var l tags.List
	for range 1200 {
		at, least, last := api.Tag(0), uint64(math.MaxUint64), uint64(0)
		ahead := api.Tag(0)
		for _, n := range order(t, &l) {
			x := label(t, &l, n)
			if x-last < least {
				at, least = ahead, x-last
			}
			ahead, last = n, x
		}
		after(t, &l, at)
		checkWrites(t, &l)
	}
	checkLabels(t, &l)
}

// Whatever is done, a list tells what a plain slice tells.
func TestAsASlice(t *testing.T) {
	for seed := range int64(8) {
		r := rand.New(rand.NewSource(seed))
		var l tags.List
		plain := []api.Tag{0}
		for i := range 4000 {
			at := r.Intn(len(plain))
			if seed%2 == 0 { // crowded at one place
				at = min(at, r.Intn(3))
			}
			if at > 0 && r.Intn(4) == 0 {
				drop(t, &l, plain[at])
				plain = slices.Delete(plain, at, at+1)
			} else {
				plain = slices.Insert(plain, at+1, after(t, &l, plain[at]))
			}
			checkPair(t, &l, plain, r.Intn(len(plain)), r.Intn(len(plain)))
			checkWrites(t, &l)
			if i%500 == 499 {
				checkAll(t, &l, plain)
			}
		}
	}
}

// checkPair: Order and the labels of two tell how they stand in the plain slice (P1.6).
func checkPair(t *testing.T, l *tags.List, plain []api.Tag, i, j int) {
	t.Helper()
	o, e := l.Order(plain[i], plain[j])
	if e != api.OK || (o == -1) != (i < j) || (o == 0) != (i == j) || (o == 1) != (i > j) {
		t.Fatalf("Order(%d, %d): %d, %d, at %d and %d", plain[i], plain[j], o, e, i, j)
	}
	if below := label(t, l, plain[i]) < label(t, l, plain[j]); below != (o == -1) {
		t.Fatalf("labels of %d and %d: below %v, Order %d", plain[i], plain[j], below, o)
	}
}

func checkAll(t *testing.T, l *tags.List, plain []api.Tag) {
	t.Helper()
	if got := order(t, l); !slices.Equal(got, plain[1:]) {
		t.Fatalf("the order is %v; want %v", got, plain[1:])
	}
	for i, n := range plain[1:] {
		if p, e := l.Prev(n); p != plain[i] || e != api.OK {
			t.Fatalf("Prev(%d): %d, %d; want %d", n, p, e, plain[i])
		}
	}
	if l.Len() != len(plain)-1 {
		t.Fatalf("Len %d; want %d", l.Len(), len(plain)-1)
	}
	checkLabels(t, l)
}

func TestTwoLists(t *testing.T) {
	var a, b tags.List
	after(t, &a, 0)
	after(t, &a, 1)
	if b.Len() != 0 || b.Given() != 0 || b.Writes() != 0 {
		t.Error("a list knows of another one")
	}
	checkNotThere(t, &b, 1)
	after(t, &b, 0)
	drop(t, &b, 1)
	if got := order(t, &a); !slices.Equal(got, []api.Tag{1, 2}) {
		t.Error(got)
	}
}
