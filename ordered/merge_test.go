package ordered_test

import (
	"slices"
	"sort"
	"testing"

	"espalier/api"
	"espalier/ordered"
)

// cards is cards of these keys, told apart by numbers from the first one on.
func cards(first int, keys ...int) []card {
	var out []card
	for i, k := range keys {
		out = append(out, card{k, first + i})
	}
	return out
}

// P7.3: the document's second example.
func TestMergeExample(t *testing.T) {
	l, e := ordered.Merge(rising, []int{1, 3}, []int{1, 2})
	if !slices.Equal(l, []int{1, 1, 2, 3}) || e != api.OK {
		t.Error(l, e)
	}
	l, e = ordered.Both(rising, []int{1, 1, 2}, []int{1, 3})
	if !slices.Equal(l, []int{1, 1}) || e != api.OK {
		t.Error(l, e)
	}
}

// lists is every list of at most n keys below top, those that do not rise too.
func lists(n, top int) [][]int {
	out := [][]int{nil}
	for i := 0; i < len(out); i++ {
		if len(out[i]) == n {
			continue
		}
		for k := range top {
			out = append(out, append(slices.Clone(out[i]), k))
		}
	}
	return out
}

// wantMerge is the lists one behind the other, sorted so that those that are one stay as they stand.
func wantMerge(ls ...[]card) ([]card, api.Errno) {
	for _, l := range ls {
		if !sort.SliceIsSorted(l, func(i, j int) bool { return l[i].key < l[j].key }) {
			return nil, api.ErrOrder
		}
	}
	out := slices.Concat(ls...)
	sort.SliceStable(out, func(i, j int) bool { return out[i].key < out[j].key })
	return out, api.OK
}

// wantBoth holds each of a against each of b.
func wantBoth(a, b []card) ([]card, api.Errno) {
	if _, e := wantMerge(a, b); e != api.OK {
		return nil, e
	}
	var out []card
	for _, x := range a {
		if slices.ContainsFunc(b, func(y card) bool { return x.key == y.key }) {
			out = append(out, x)
		}
	}
	return out, api.OK
}

func checkMerge(t *testing.T, ls ...[]card) {
	t.Helper()
	want, wantE := wantMerge(ls...)
	if l, e := ordered.Merge(byKey, ls...); !slices.Equal(l, want) || e != wantE {
		t.Fatalf("Merge of %v: %v, %d; want %v, %d", ls, l, e, want, wantE)
	}
}

func checkBoth(t *testing.T, a, b []card) {
	t.Helper()
	want, wantE := wantBoth(a, b)
	if l, e := ordered.Both(byKey, a, b); !slices.Equal(l, want) || e != wantE {
		t.Fatalf("Both of %v, %v: %v, %d; want %v, %d", a, b, l, e, want, wantE)
	}
}

// P7.3, P7.5: of all short lists, those that do not rise too.
func TestMergeFew(t *testing.T) {
	checkMerge(t)
	short := lists(3, 3)
	for _, a := range short {
		x := cards(0, a...)
		checkMerge(t, x)
		for _, b := range short {
			y := cards(10, b...)
			checkMerge(t, x, y)
			checkBoth(t, x, y)
		}
	}
	short = lists(2, 2)
	for _, a := range short {
		for _, b := range short {
			for _, c := range short {
				for _, d := range short {
					checkMerge(t, cards(0, a...), cards(10, b...), cards(20, c...), cards(30, d...))
				}
			}
		}
	}
}

// P7.3, P7.5: of any lists, many or long, empty ones among them.
func TestMergeMany(t *testing.T) {
	r := dice(4)
	list := func(n, top, id int) []card {
		keys := make([]int, n)
		for i := range keys {
			keys[i] = r.IntN(top)
		}
		if r.IntN(40) > 0 {
			slices.Sort(keys)
		}
		return cards(id, keys...)
	}
	for range 500 {
		var ls [][]card
		for i := range r.IntN(20) {
			ls = append(ls, list(r.IntN(30), 1+r.IntN(60), 1000*i))
		}
		checkMerge(t, ls...)
		checkBoth(t, list(r.IntN(100), 1+r.IntN(60), 0), list(r.IntN(100), 1+r.IntN(60), 1000))
	}
}

// P7.3: whatever is wrong, the document's first error is told, and no list.
func TestMergeWrong(t *testing.T) {
	n := api.MaxPlaced
	fits, long := upTo(n), upTo(n+1)
	falls := []int{1, 2, 1}
	longFalls := append(slices.Clone(fits), 0)
	lastFalls := slices.Clone(fits)
	lastFalls[n-1] = 0
	for i, x := range []struct {
		less func(a, b int) bool
		ls   [][]int
		why  api.Errno
	}{
		{nil, nil, api.ErrArg},
		{nil, [][]int{{1}}, api.ErrArg},
		{nil, [][]int{longFalls}, api.ErrArg},
		{nil, [][]int{falls}, api.ErrArg},
		{rising, [][]int{long}, api.ErrLong},
		{rising, [][]int{longFalls}, api.ErrLong},
		{rising, [][]int{fits, {1}}, api.ErrLong},
		{rising, [][]int{{1}, nil, fits}, api.ErrLong},
		{rising, [][]int{falls, fits}, api.ErrLong},
		{rising, [][]int{fits, fits, fits}, api.ErrLong},
		{rising, [][]int{fits[:n/2], fits[:n/2], {1}}, api.ErrLong},
		{rising, [][]int{falls}, api.ErrOrder},
		{rising, [][]int{nil, {1}, {2, 2, 1}, {1}}, api.ErrOrder},
		{rising, [][]int{{2, 1}, {1}}, api.ErrOrder},
		{rising, [][]int{lastFalls}, api.ErrOrder},
	} {
		if l, e := ordered.Merge(x.less, x.ls...); len(l) != 0 || e != x.why {
			t.Errorf("%d: %d elements, %d; want %d", i, len(l), e, x.why)
		}
	}
	for i, x := range []struct {
		less func(a, b int) bool
		a, b []int
		why  api.Errno
	}{
		{nil, nil, nil, api.ErrArg},
		{nil, long, falls, api.ErrArg},
		{nil, falls, long, api.ErrArg},
		{rising, long, nil, api.ErrLong},
		{rising, nil, long, api.ErrLong},
		{rising, falls, long, api.ErrLong},
		{rising, long, falls, api.ErrLong},
		{rising, longFalls, nil, api.ErrLong},
		{rising, falls, nil, api.ErrOrder},
		{rising, nil, falls, api.ErrOrder},
		{rising, []int{5}, []int{9, 8}, api.ErrOrder},
		{rising, []int{9, 8}, []int{5}, api.ErrOrder},
		{rising, fits, lastFalls, api.ErrOrder},
		{rising, lastFalls, fits, api.ErrOrder},
	} {
		if l, e := ordered.Both(x.less, x.a, x.b); len(l) != 0 || e != x.why {
			t.Errorf("%d: %d elements, %d; want %d", i, len(l), e, x.why)
		}
	}
}

// P7.3: the limit is of elements together in Merge, of each list in Both, and is allowed itself; elements that take no room are as many.
func TestMergeLimit(t *testing.T) {
	n := api.MaxPlaced
	fits := upTo(n)
	if l, e := ordered.Merge(rising, fits); !slices.Equal(l, fits) || e != api.OK {
		t.Error(len(l), e)
	}
	if l, e := ordered.Merge(rising, fits[:1], fits[1:n/2], nil, fits[n/2:]); !slices.Equal(l, fits) || e != api.OK {
		t.Error(len(l), e)
	}
	var single [][]int
	for i := range fits {
		single = append(single, nil, fits[n-1-i:n-i])
	}
	if l, e := ordered.Merge(rising, single...); !slices.Equal(l, fits) || e != api.OK {
		t.Error(len(l), e)
	}
	if l, e := ordered.Both(rising, fits, fits); !slices.Equal(l, fits) || e != api.OK {
		t.Error(len(l), e)
	}
	ones := make([]int, n)
	if l, e := ordered.Both(rising, ones, ones); !slices.Equal(l, ones) || e != api.OK {
		t.Error(len(l), e)
	}
	never := func(a, b struct{}) bool { return false }
	huge := make([]struct{}, 1<<62)
	if l, e := ordered.Merge(never, huge, huge, huge, huge); len(l) != 0 || e != api.ErrLong {
		t.Error(len(l), e)
	}
	if l, e := ordered.Merge(never, huge[:5], huge[:6]); len(l) != 11 || e != api.OK {
		t.Error(len(l), e)
	}
	if l, e := ordered.Both(never, huge[:5], huge); len(l) != 0 || e != api.ErrLong {
		t.Error(len(l), e)
	}
}

// P7.3: what is handed in stays as it is, its spare room too, and an answer is nobody else's memory.
func TestMergeMemory(t *testing.T) {
	a, b := []int{1, 3, 5, 7, 9}, []int{1, 2, 3, 4, 9}
	ls := [][]int{a[:3], b[:3], a[:0], nil}
	for name, call := range map[string]func() ([]int, api.Errno){
		"Merge":             func() ([]int, api.Errno) { return ordered.Merge(rising, ls...) },
		"Merge of one":      func() ([]int, api.Errno) { return ordered.Merge(rising, ls[:1]...) },
		"Merge of an empty": func() ([]int, api.Errno) { return ordered.Merge(rising, a[:0]) },
		"Merge beside none": func() ([]int, api.Errno) { return ordered.Merge(rising, nil, a[:3], nil) },
		"Both":              func() ([]int, api.Errno) { return ordered.Both(rising, a[:3], b[:3]) },
		"Both, the same":    func() ([]int, api.Errno) { return ordered.Both(rising, a[:3], a[:3]) },
		"Both of an empty":  func() ([]int, api.Errno) { return ordered.Both(rising, a[:0], b) },
	} {
		l, e := call()
		if e != api.OK {
			t.Error(name, e)
		}
		was := slices.Clone(l)
		again, _ := call()
		for i := range again[:cap(again)] {
			again[:cap(again)][i] = -1
		}
		if !slices.Equal(l, was) || !slices.Equal(a, []int{1, 3, 5, 7, 9}) || !slices.Equal(b, []int{1, 2, 3, 4, 9}) {
			t.Error(name, l, a, b)
		}
	}
	if len(ls) != 4 || !slices.Equal(ls[0], a[:3]) || !slices.Equal(ls[1], b[:3]) || len(ls[2]) != 0 || ls[3] != nil {
		t.Error(ls)
	}
	l, _ := ordered.Merge(rising, a[:2], b[:2])
	a[0], b[1] = 100, 100
	equal(t, "Merge, its arguments changed", l, []int{1, 1, 2, 3})
}

// P7.3: elements are of any type, also of those that can't be compared.
func TestMergeAnyType(t *testing.T) {
	one, two := func() int { return 1 }, func() int { return 2 }
	less := func(a, b func() int) bool { return a() < b() }
	if l, e := ordered.Merge(less, []func() int{two}, []func() int{one}); e != api.OK || len(l) != 2 || l[0]() != 1 || l[1]() != 2 {
		t.Error(len(l), e)
	}
	if l, e := ordered.Both(less, []func() int{one, two}, []func() int{two}); e != api.OK || len(l) != 1 || l[0]() != 2 {
		t.Error(len(l), e)
	}
}
