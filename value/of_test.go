package value_test

import (
	"math/rand/v2"
	"slices"
	"strings"
	"testing"

	"espalier/api"
	"espalier/tree"
	"espalier/value"
)

func element(kids ...api.Tree) api.Tree {
	return api.Tree{Kind: api.Element, Name: "a", Kids: kids}
}

func leaf(s string) api.Tree { return api.Tree{Kind: api.Text, Text: s} }

// document is one of these roots.
func document(t *testing.T, roots ...api.Tree) *tree.Doc {
	t.Helper()
	d := new(tree.Doc)
	for _, x := range roots {
		if _, e := d.Insert(api.Last, 0, x); e != api.OK {
			t.Fatal(e)
		}
	}
	return d
}

func of(t *testing.T, d *tree.Doc, n api.Handle, want string) {
	t.Helper()
	if s, e := value.Of(d, n); s != want || e != api.OK {
		t.Errorf("Of(%x): %.60q of %d bytes, %d; want %.60q of %d", n, s, len(s), e, want, len(want))
	}
}

// P14.1: what is no document, and what is no node.
func TestOfRefuses(t *testing.T) {
	refuses := func(d *tree.Doc, n api.Handle, why api.Errno) {
		t.Helper()
		if s, e := value.Of(d, n); s != "" || e != why {
			t.Errorf("Of(%x): %q, %d; want %d", n, s, e, why)
		}
	}
	refuses(nil, 0, api.ErrArg)
	refuses(nil, 1<<32+1, api.ErrArg)
	d := document(t, element(leaf("x")), leaf("y"))
	for _, n := range []api.Handle{1, 2, 1 << 32, 2<<32 + 1, 1<<32 + 4, 1<<32 + 0xffffffff, 0xffffffff_ffffffff} {
		refuses(d, n, api.ErrNode)
	}
	refuses(new(tree.Doc), 1<<32+1, api.ErrNode)
	if e := d.Delete(1<<32 + 1); e != api.OK {
		t.Fatal(e)
	}
	refuses(d, 1<<32+1, api.ErrNode)
	refuses(d, 1<<32+2, api.ErrNode)
	of(t, d, 0, "y")
}

// P14.1: all texts within, one behind the other; of a text its own; of 0 those of all roots.
func TestOfPlain(t *testing.T) {
	of(t, new(tree.Doc), 0, "")
	d := document(t, element(leaf("a"), element(leaf("b"), element(), leaf("")), leaf(" c")), leaf("d"), element())
	for i, want := range []string{"ab cd", "ab c", "a", "b", "b", "", "", " c", "d", ""} {
		n := api.Handle(0)
		if i > 0 {
			n = api.Handle(1<<32 + i)
		}
		of(t, d, n, want)
	}
	// An attribute is no text, and neither is a name.
	x := element(leaf("t"))
	x.Attrs = []api.Attr{{Name: "k", Value: "v"}}
	of(t, document(t, x), 0, "t")
}

// P14.1: of more than MaxText bytes only whole characters, and nothing behind the first one that does not fit.
func TestOfLong(t *testing.T) {
	most := api.MaxText
	long := strings.Repeat("x", most)
	of(t, document(t, leaf(long)), 0, long)
	of(t, document(t, leaf(long), leaf("y")), 0, long)
	of(t, document(t, leaf(long), leaf("é")), 0, long)
	of(t, document(t, leaf(long[1:]), leaf("yz")), 0, long[1:]+"y")
	of(t, document(t, leaf(long[2:]), leaf(""), leaf("y"), leaf("z"), leaf("w")), 0, long[2:]+"yz")
	for _, c := range []string{"y", "é", "€", "\U00010000"} {
		for short := range 6 {
			head := long[short:]
			want := head + strings.Repeat(c, short/len(c))
			d := document(t, element(leaf(head), element(leaf(c), leaf(c+c)), leaf(strings.Repeat(c, 6))), leaf("z"))
			of(t, d, 0, want)
			of(t, d, 1<<32+1, want)
			of(t, d, 1<<32+2, head)
		}
	}
	// A character that fits stands behind one that does not.
	of(t, document(t, leaf(long[1:]), leaf("é"), leaf("y")), 0, long[1:])
	of(t, document(t, leaf(long[1:]), leaf("éy")), 0, long[1:])
	of(t, document(t, leaf(long[3:]), element(leaf("\U00010000")), element(leaf("y"))), 0, long[3:])
}

// P14.1: a full document of full texts is told up to where it may be.
func TestOfFull(t *testing.T) {
	long := strings.Repeat("é", api.MaxText/2)
	d := document(t, element(slices.Repeat([]api.Tree{leaf(long)}, api.MaxNodes-1)...))
	of(t, d, 0, long)
	of(t, d, 1<<32+1, long)
	of(t, d, 1<<32+api.MaxNodes, long)
	deep := leaf("x")
	for range api.MaxDepth - 1 {
		deep = element(deep)
	}
	of(t, document(t, deep), 0, "x")
}

// forest is any forest.
func forest(r *rand.Rand, deep int) []api.Tree {
	var l []api.Tree
	for range r.IntN(4) {
		if deep == 0 || r.IntN(3) == 0 {
			l = append(l, leaf(strings.Repeat(pick(r, []string{"", "a", "b", "é", "€", "\U0001f600"}), pick(r, []int{1, 2, 701, 4001}))))
			continue
		}
		l = append(l, element(forest(r, deep-1)...))
	}
	return l
}

// told is all texts of a tree, one behind the other.
func told(x api.Tree) string {
	s := x.Text
	for _, k := range x.Kids {
		s += told(k)
	}
	return s
}

// short is as many whole characters of a text as have no more than MaxText bytes.
func short(s string) string {
	whole := 0
	for at, c := range s {
		if end := at + len(string(c)); end <= api.MaxText {
			whole = end
		}
	}
	return s[:whole]
}

// P14.1: of all nodes of any document, behind edits too, and each text is one that can be.
func TestOfAny(t *testing.T) {
	r := dice(1)
	cut := 0
	for range 200 {
		d := document(t, forest(r, 3)...)
		for range 3 {
			all, _ := d.All(0)
			whole := ""
			for _, x := range d.Forest() {
				whole += told(x)
			}
			of(t, d, 0, short(whole))
			for _, n := range all {
				x, _ := d.Subtree(n)
				want := told(x)
				if len(want) > api.MaxText {
					cut++
				}
				of(t, d, n, short(want))
			}
			if len(all) > 0 {
				d.Move(pick(r, all), pick(r, []int{api.First, api.Last, api.Before, api.After}), pick(r, all))
				d.Delete(pick(r, all))
			}
		}
	}
	if cut < 40 {
		t.Error("too few were too long:", cut)
	}
}
