package markup_test

import (
	"math/rand"
	"slices"
	"strings"
	"testing"
	"unsafe"

	"espalier/api"
	"espalier/markup"
)

const bad = 99 // no kind of node

func el(name string, kids ...api.Tree) api.Tree {
	return api.Tree{Kind: api.Element, Name: name, Kids: kids}
}

func with(x api.Tree, attrs ...api.Attr) api.Tree {
	x.Attrs = attrs
	return x
}

func at(name, value string) api.Attr { return api.Attr{Name: name, Value: value} }

func text(s string) api.Tree { return api.Tree{Kind: api.Text, Text: s} }

func forest(l ...api.Tree) []api.Tree { return l }

func long(n int) string { return strings.Repeat("x", n) }

// many is a tree so many times.
func many(n int, x api.Tree) []api.Tree { return slices.Repeat([]api.Tree{x}, n) }

// chain is so many nodes, one in the other; the innermost is inner.
func chain(n int, inner api.Tree) api.Tree {
	for range n - 1 {
		inner = el("c", inner)
	}
	return inner
}

// attrs is so many attributes, their names rising.
func attrs(n int) []api.Attr {
	var l []api.Attr
	for i := range n {
		l = append(l, at(attrName(i), "v"))
	}
	return l
}

func attrName(i int) string { return "a" + string(rune('0'+i/10)) + string(rune('0'+i%10)) }

// alike holds two forests against each other, all fields; nil and empty lists are alike.
func alike(a, b []api.Tree) bool { return slices.EqualFunc(a, b, alikeTree) }

func alikeTree(a, b api.Tree) bool {
	return a.Kind == b.Kind && a.Name == b.Name && slices.Equal(a.Attrs, b.Attrs) && a.Text == b.Text && alike(a.Kids, b.Kids)
}

// copyOf is a forest in memory of its own.
func copyOf(l []api.Tree) []api.Tree {
	l = slices.Clone(l)
	for i := range l {
		l[i].Attrs = slices.Clone(l[i].Attrs)
		l[i].Kids = copyOf(l[i].Kids)
	}
	return l
}

// brief is a text, if it is long only its ends.
func brief(s string) string {
	if len(s) > 200 {
		return s[:100] + " .. " + s[len(s)-100:]
	}
	return s
}

// reads: Parse answers so, and an error comes with nothing else.
func reads(t *testing.T, s string, want []api.Tree) {
	t.Helper()
	got, place, e := markup.Parse(s)
	if e != api.OK || place != 0 || !alike(got, want) {
		t.Errorf("Parse(%q): %.300v, %d, %d; want %.300v", brief(s), got, place, e, want)
	}
}

func refuses(t *testing.T, s string, place int, why api.Errno) {
	t.Helper()
	got, at, e := markup.Parse(s)
	if len(got) != 0 || at != place || e != why {
		t.Errorf("Parse(%q): %d trees, %d, %d; want %d, %d", brief(s), len(got), at, e, place, why)
	}
}

func prints(t *testing.T, f []api.Tree, want string, why api.Errno) {
	t.Helper()
	if s, e := markup.Print(f); s != want || e != why {
		t.Errorf("Print(%.300v): %q, %d; want %q, %d", f, brief(s), e, brief(want), why)
	}
}

func normals(t *testing.T, f, want []api.Tree, why api.Errno) {
	t.Helper()
	if got, e := markup.Normal(f); e != why || !alike(got, want) {
		t.Errorf("Normal(%.300v): %.300v, %d; want %.300v, %d", f, got, e, want, why)
	}
}

// room is where a list lies, its spare room too.
type room struct{ from, to uintptr }

func roomOf[T any](l []T) room {
	var one T
	from := uintptr(unsafe.Pointer(unsafe.SliceData(l)))
	return room{from, from + uintptr(cap(l))*unsafe.Sizeof(one)}
}

// rooms is where all lists of a forest lie.
func rooms(l []api.Tree) []room {
	all := []room{roomOf(l)}
	for _, x := range l {
		all = append(all, roomOf(x.Attrs))
		all = append(all, rooms(x.Kids)...)
	}
	return slices.DeleteFunc(all, func(r room) bool { return r.from == r.to })
}

// apart: no two lists of these forests share memory.
func apart(t *testing.T, forests ...[]api.Tree) {
	t.Helper()
	var all []room
	for _, f := range forests {
		all = append(all, rooms(f)...)
	}
	slices.SortFunc(all, func(a, b room) int {
		if a.from < b.from {
			return -1
		}
		return 1
	})
	for i := 1; i < len(all); i++ {
		if all[i].from < all[i-1].to {
			t.Fatal("two lists share memory")
		}
	}
}

// maker makes forests and markup, the same ones in each run.
type maker struct{ *rand.Rand }

func newMaker(seed int64) maker { return maker{rand.New(rand.NewSource(seed))} }

func (m maker) one(l []string) string { return l[m.Intn(len(l))] }

func names() []string { return []string{"a", "b", "c", "A", "_", "a-b.c9", long(api.MaxName)} }

func words() []string {
	return []string{"", "", "x", "y z", "é", "€", "\U0001f333", "&", "<", ">", "\"", "'", "\r", "\n", "\t", " ", "]]>", "-->", "&amp;", "<a/>", "a&b<c>d\"e'f\rg\nh\ti"}
}

// forest is a forest that can be, with texts that are empty, or stand behind each other, and with what plays no part.
func (m maker) forest(depth int) []api.Tree {
	var l []api.Tree
	for range m.Intn(5) {
		x := api.Tree{Kind: api.Text, Text: m.one(words())}
		if m.Intn(5) < 3 {
			x = el(m.one(names()))
			x.Attrs = m.attrs()
			if depth > 1 {
				x.Kids = m.forest(depth - 1)
			}
		}
		l = append(l, m.junk(x))
	}
	return l
}

func (m maker) attrs() []api.Attr {
	var l []api.Attr
	for _, n := range []string{"A", "_x", "a", "aa", "b"} {
		if m.Intn(3) == 0 {
			l = append(l, at(n, m.one(words())))
		}
	}
	return l
}

// junk puts, now and then, something where the kind does not use it.
func (m maker) junk(x api.Tree) api.Tree {
	switch {
	case m.Intn(8) > 0:
	case x.Kind == api.Element:
		x.Text = "\x00"
	default:
		x.Name, x.Attrs, x.Kids = "1", attrs(api.MaxAttrs+1), forest(el("k"), api.Tree{Kind: bad})
	}
	return x
}
