package tree_test

import (
	"testing"

	"espalier/api"
	"espalier/tree"
)

type checked struct {
	what string
	x    api.Tree
	want api.Errno
}

func runChecks(t *testing.T, l []checked) {
	t.Helper()
	for _, c := range l {
		answers(t, "Check of "+c.what, tree.Check(c.x), c.want)
		var d tree.Doc
		n, e := d.Insert(api.Last, 0, c.x)
		if e != c.want || (n == 0) != (e != api.OK) {
			t.Errorf("Insert of %s: %x, %d; want %d", c.what, n, e, c.want)
		}
	}
}

// P3.1: kinds, names, attributes and texts that can be, and that can't.
func TestCheckNodes(t *testing.T) {
	at := func(name, value string) api.Attr { return api.Attr{Name: name, Value: value} }
	runChecks(t, []checked{
		{"an element", el("a"), api.OK},
		{"a text", text("t"), api.OK},
		{"an empty text", text(""), api.OK},
		{"no kind", api.Tree{}, api.ErrArg},
		{"a kind below", api.Tree{Kind: -1, Name: "a"}, api.ErrArg},
		{"a kind above", api.Tree{Kind: 3, Name: "a", Text: "t"}, api.ErrArg},
		{"no kind, with what is wrong", api.Tree{Name: "1", Attrs: attrs(33), Text: "\x00"}, api.ErrArg},
		{"no name", el(""), api.ErrName},
		{"a name that can't be", el("1"), api.ErrName},
		{"the longest name", el(long(api.MaxName)), api.OK},
		{"a longer name", el(long(api.MaxName + 1)), api.ErrName},
		{"the most attributes", with(el("a"), attrs(api.MaxAttrs)...), api.OK},
		{"one more", with(el("a"), attrs(api.MaxAttrs+1)...), api.ErrLong},
		{"a wrong name, and too many attributes", with(el("-"), attrs(api.MaxAttrs+1)...), api.ErrName},
		{"too many attributes, the first one wrong", with(el("a"), append([]api.Attr{at("1", "")}, attrs(api.MaxAttrs)...)...), api.ErrLong},
		{"an attribute without name", with(el("a"), at("", "v")), api.ErrName},
		{"an attribute's wrong name", with(el("a"), at("b", "v"), at("c d", "v")), api.ErrName},
		{"attributes that rise", with(el("a"), at("B", ""), at("a", ""), at("a-", ""), at("aa", ""), at("b", "")), api.OK},
		{"one attribute twice", with(el("a"), at("b", "1"), at("b", "2")), api.ErrName},
		{"attributes that fall", with(el("a"), at("a", ""), at("B", "")), api.ErrName},
		{"a beginning behind the whole", with(el("a"), at("ab", ""), at("a", "")), api.ErrName},
		{"the last two fall", with(el("a"), at("a", ""), at("c", ""), at("b", "")), api.ErrName},
		{"the longest value", with(el("a"), at("b", long(api.MaxText))), api.OK},
		{"a longer value", with(el("a"), at("b", long(api.MaxText+1))), api.ErrLong},
		{"a value that can't be", with(el("a"), at("b", "\x00")), api.ErrText},
		{"a wrong name, and a wrong value", with(el("a"), at("1", "\x00")), api.ErrName},
		{"a wrong value ahead of a wrong name", with(el("a"), at("b", "\x00"), at("b", "")), api.ErrText},
		{"a wrong name ahead of a wrong value", with(el("a"), at("b", ""), at("b", "\x00")), api.ErrName},
		{"a long value ahead of a wrong one", with(el("a"), at("b", long(api.MaxText+1)), at("c", "\x00")), api.ErrLong},
		{"the longest text", text(long(api.MaxText)), api.OK},
		{"a longer text", text(long(api.MaxText + 1)), api.ErrLong},
		{"a text that can't be", text("a\x00"), api.ErrText},
		{"half a character", text("\xc3"), api.ErrText},
	})
}

// P3.1: what a kind does not use plays no part.
func TestCheckUnused(t *testing.T) {
	junk := []api.Tree{{Kind: bad}, el("1")}
	runChecks(t, []checked{
		{"an element with a text", api.Tree{Kind: api.Element, Name: "a", Text: "\x00" + long(api.MaxText)}, api.OK},
		{"a text with the rest", api.Tree{Kind: api.Text, Name: "1", Attrs: attrs(40), Text: "t", Kids: junk}, api.OK},
		{"an element with wrong children", el("a", junk...), api.ErrArg},
	})
	var d tree.Doc
	n := insert(t, &d, api.Last, 0, api.Tree{Kind: api.Text, Name: "n", Attrs: attrs(2), Text: "t", Kids: []api.Tree{el("k")}})
	if got, _ := d.Subtree(n); d.Len() != 1 || !same(got, text("t")) {
		t.Errorf("a text keeps %v", got)
	}
	n = insert(t, &d, api.Last, 0, api.Tree{Kind: api.Element, Name: "n", Text: "t"})
	if got, _ := d.Subtree(n); d.Len() != 2 || !same(got, el("n")) {
		t.Errorf("an element keeps %v", got)
	}
	if s := d.Image().Slots; s[0].Name != "" || len(s[0].Attrs) != 0 || len(s[0].Kids) != 0 || s[1].Text != "" {
		t.Errorf("slots keep %v", s)
	}
	// Nor do the children that a text does not have count, or lie deep.
	var e tree.Doc
	top := insert(t, &e, api.Last, 0, chain(api.MaxDepth-1, el("a")))
	all, _ := e.All(top)
	deep := text("t")
	deep.Kids = []api.Tree{wide(api.MaxNodes)}
	if _, err := e.Insert(api.Last, all[len(all)-1], deep); err != api.OK || e.Len() != api.MaxDepth {
		t.Errorf("%d, %d nodes", err, e.Len())
	}
}

// P3.1: how deep and how many.
func TestCheckLimits(t *testing.T) {
	runChecks(t, []checked{
		{"the deepest", chain(api.MaxDepth, el("a")), api.OK},
		{"a deepest text", chain(api.MaxDepth, text("")), api.OK},
		{"one deeper", chain(api.MaxDepth+1, el("a")), api.ErrLong},
		{"a text one deeper", chain(api.MaxDepth+1, text("")), api.ErrLong},
		{"a wrong one one deeper", chain(api.MaxDepth+1, el("1")), api.ErrLong},
		{"a wrong one at the deepest", chain(api.MaxDepth, el("1")), api.ErrName},
		{"two deep branches", el("a", chain(api.MaxDepth-1, el("b")), chain(api.MaxDepth-1, el("b"))), api.OK},
		{"the second branch deeper", el("a", el("b"), chain(api.MaxDepth, el("b"))), api.ErrLong},
		{"the most nodes", wide(api.MaxNodes), api.OK},
		{"one more", wide(api.MaxNodes + 1), api.ErrLong},
		{"many more", wide(3 * api.MaxNodes), api.ErrLong},
	})
	last, beyond := wide(api.MaxNodes), wide(api.MaxNodes+1)
	last.Kids[api.MaxNodes-2] = text("\x00")
	beyond.Kids[api.MaxNodes-1] = text("\x00")
	nested := el("r", wide(2000), wide(2000), el("z", wide(api.MaxNodes-4002), text("")))
	runChecks(t, []checked{
		{"the last one wrong", last, api.ErrText},
		{"one beyond, wrong too", beyond, api.ErrLong},
		{"one more, nested", nested, api.ErrLong},
		{"as many, nested", el("r", wide(2000), wide(2000), el("z", wide(api.MaxNodes-4003), text(""))), api.OK},
	})
}

// P3.1: the first node in document order tells.
func TestCheckFirst(t *testing.T) {
	runChecks(t, []checked{
		{"parent ahead of child", el("1", text("\x00")), api.ErrName},
		{"first child ahead of second", el("a", text("\x00"), el("1")), api.ErrText},
		{"a child's child ahead of its sibling", el("a", el("b", el("1")), text("\x00")), api.ErrName},
		{"a child's child ahead of its sibling, turned", el("a", el("b", text("\x00")), el("1")), api.ErrText},
		{"a deep one ahead", el("a", chain(api.MaxDepth, el("b")), el("1")), api.ErrLong},
		{"a deep one behind", el("a", el("1"), chain(api.MaxDepth, el("b"))), api.ErrName},
		{"a kind ahead", el("a", api.Tree{Kind: bad}, el("1")), api.ErrArg},
		{"an attribute ahead of a child", with(el("a", el("1")), api.Attr{Name: "b", Value: "\x00"}), api.ErrText},
	})
}

// Every call ends: also of a tree that holds itself.
func TestCheckEnds(t *testing.T) {
	loop := make([]api.Tree, 2)
	loop[0] = el("a", loop...)
	loop[0].Kids = loop
	loop[1] = el("b")
	answers(t, "Check of a loop", tree.Check(loop[0]), api.ErrLong)
	both := make([]api.Tree, 2)
	both[0] = api.Tree{Kind: api.Element, Name: "a", Kids: both}
	both[1] = both[0]
	answers(t, "Check of two loops", tree.Check(both[0]), api.ErrLong)
	var d tree.Doc
	refused(t, &d, api.Last, 0, both[0], api.ErrLong)
}

func TestCheckChangesNothing(t *testing.T) {
	x := with(el("a", text("b")), attrs(3)...)
	was := copyTree(x)
	tree.Check(x)
	if !same(x, was) {
		t.Errorf("%v; was %v", x, was)
	}
}
