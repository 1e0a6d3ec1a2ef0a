package markup_test

import (
	"slices"
	"strings"
	"testing"

	"espalier/api"
	"espalier/markup"
	"espalier/tree"
)

// P4.2: one form.
func TestPrint(t *testing.T) {
	for _, x := range []struct {
		f    []api.Tree
		want string
	}{
		{nil, ""},
		{forest(), ""},
		{forest(text("")), ""},
		{forest(text("a"), text(""), text("b")), "ab"},
		{forest(text("a<b>&\"c'\r\n\t")), "a&lt;b&gt;&amp;\"c'&#13;\n\t"},
		{forest(text("é\U0001f333]]>")), "é\U0001f333]]&gt;"},
		{forest(el("a")), "<a/>"},
		{forest(el("a", text(""))), "<a/>"},
		{forest(el("a", text(""), text(""))), "<a/>"},
		{forest(el("a", text(""), text("x"))), "<a>x</a>"},
		{forest(el("a", text(" "))), "<a> </a>"},
		{forest(el("a", text(""), el("b"))), "<a><b/></a>"},
		{forest(el("a", el("b", text("")))), "<a><b/></a>"},
		{forest(el("a"), text("x"), el("b")), "<a/>x<b/>"},
		{forest(with(el("a"), at("b", "1"))), `<a b="1"/>`},
		{forest(with(el("a", text("x")), at("B", ""), at("b", "a<b>&\"c'\r\n\t "))), "<a B=\"\" b=\"a&lt;b&gt;&amp;&quot;c'&#13;&#10;&#9; \">x</a>"},
		{forest(with(el("a", text("xz"), el("c")), at("b", "1"))), `<a b="1">xz<c/></a>`},
		{forest(el("a", el("a", el("a")), el("a"))), "<a><a><a/></a><a/></a>"},
		{forest(api.Tree{Kind: api.Text, Name: "1", Attrs: attrs(40), Text: "t", Kids: forest(el("k"))}), "t"},
		{forest(api.Tree{Kind: api.Element, Name: "a", Text: "\x00"}), "<a/>"},
		{forest(el("a", api.Tree{Kind: api.Text, Kids: forest(el("k"))})), "<a/>"},
	} {
		prints(t, x.f, x.want, api.OK)
	}
}

// wrongForests: forests that can't be, and why.
func wrongForests() []struct {
	what string
	f    []api.Tree
	why  api.Errno
} {
	full := many(api.MaxNodes, text(""))
	loop := make([]api.Tree, 2)
	loop[0], loop[1] = api.Tree{Kind: api.Element, Name: "a", Kids: loop}, text("")
	return []struct {
		what string
		f    []api.Tree
		why  api.Errno
	}{
		{"no kind", forest(api.Tree{}), api.ErrArg},
		{"a kind that is none", forest(el("a"), api.Tree{Kind: bad, Name: "a"}), api.ErrArg},
		{"a name", forest(el("1")), api.ErrName},
		{"no name", forest(el("")), api.ErrName},
		{"a text", forest(text("\x00")), api.ErrText},
		{"a long text", forest(text(long(api.MaxText + 1))), api.ErrLong},
		{"a value", forest(with(el("a"), at("b", "\xff"))), api.ErrText},
		{"a long value", forest(with(el("a"), at("b", long(api.MaxText+1)))), api.ErrLong},
		{"attributes that fall", forest(with(el("a"), at("b", ""), at("a", ""))), api.ErrName},
		{"too many attributes", forest(with(el("a"), attrs(api.MaxAttrs+1)...)), api.ErrLong},
		{"the first tree ahead of the second", forest(el("1"), text("\x00")), api.ErrName},
		{"the first tree ahead of the second, turned", forest(text("\x00"), el("1")), api.ErrText},
		{"within the first ahead of the second", forest(el("a", text("\x00")), el("1")), api.ErrText},
		{"too deep", forest(chain(api.MaxDepth+1, el("a"))), api.ErrLong},
		{"too deep, a text", forest(text("x"), chain(api.MaxDepth+1, text(""))), api.ErrLong},
		{"too many nodes in a tree", forest(el("a", full...)), api.ErrLong},
		{"too many roots", append(slices.Clone(full), text("")), api.ErrLong},
		{"far too many roots", many(100*api.MaxNodes, text("")), api.ErrLong},
		{"too many nodes in two trees", forest(el("a", full[:api.MaxNodes/2]...), el("a", full[:api.MaxNodes/2-1]...)), api.ErrLong},
		{"too many nodes in three trees", forest(el("a", full[:2000]...), text(""), el("a", el("b", full[:api.MaxNodes-2003]...))), api.ErrLong},
		{"too many nodes, and a wrong one behind", append(slices.Clone(full), text(""), el("1")), api.ErrName},
		{"too many nodes, and a wrong one first", append(forest(api.Tree{}), full...), api.ErrArg},
		{"a tree that holds itself", loop, api.ErrLong},
	}
}

// P4.2, P4.3: forests that can't be.
func TestForestsThatCant(t *testing.T) {
	for _, x := range wrongForests() {
		if s, e := markup.Print(x.f); s != "" || e != x.why {
			t.Errorf("Print, %s: %q, %d; want %d", x.what, brief(s), e, x.why)
		}
		if f, e := markup.Normal(x.f); len(f) != 0 || e != x.why {
			t.Errorf("Normal, %s: %d trees, %d; want %d", x.what, len(f), e, x.why)
		}
	}
}

// P4.2, P4.3: as many and as deep as can be.
func TestForestsThatJustCan(t *testing.T) {
	full := many(api.MaxNodes, el("a"))
	empty := many(api.MaxNodes, text(""))
	hidden := text("x")
	hidden.Kids = many(api.MaxNodes+1, el("k"))
	deep := forest(chain(api.MaxDepth, el("c")), chain(api.MaxDepth, text("x")))
	for _, f := range [][]api.Tree{full, empty, deep, forest(hidden), forest(el("b", full[1:]...)), forest(el("b", full[:2000]...), el("b", full[:api.MaxNodes-2003]...), text("x")), forest(el("b", empty[1:]...)), forest(text(long(api.MaxText)), el("a"), text(long(api.MaxText)))} {
		prints(t, f, wantPrint(f), api.OK)
		normals(t, f, wantNormal(f), api.OK)
	}
}

// P4.2: how many bytes the markup has.
func TestPrintBytes(t *testing.T) {
	most := long(api.MaxText)
	var l []api.Tree
	for range api.MaxBytes/api.MaxText - 1 {
		l = append(l, text(most))
	}
	// <a b=""></a> has 12 bytes.
	fits := func(n int) []api.Tree { return append(slices.Clone(l), with(el("a", text("x")), at("b", long(n)))) }
	prints(t, fits(api.MaxText-13), wantPrint(fits(api.MaxText-13)), api.OK)
	if n := len(wantPrint(fits(api.MaxText - 13))); n != api.MaxBytes {
		t.Fatal(n)
	}
	prints(t, fits(api.MaxText-12), "", api.ErrLong)
	prints(t, append(fits(api.MaxText-13), text("")), wantPrint(fits(api.MaxText-13)), api.OK)
	prints(t, append(fits(api.MaxText-13), text("x")), "", api.ErrLong)
	prints(t, append(fits(api.MaxText-13), el("a")), "", api.ErrLong)
	// Escaped it is longer.
	quotes := strings.Repeat("\"", api.MaxText)
	prints(t, slices.Repeat(forest(text(quotes)), 16), strings.Repeat(quotes, 16), api.OK)
	prints(t, many(16, with(el("a"), at("b", quotes))), "", api.ErrLong)
	prints(t, forest(text(strings.Repeat("&", api.MaxText)), text(strings.Repeat("<", api.MaxText)), text(strings.Repeat("\r", api.MaxText))), strings.Repeat("&amp;", api.MaxText)+strings.Repeat("&lt;", api.MaxText)+strings.Repeat("&#13;", api.MaxText), api.OK)
	prints(t, many(4, text(strings.Repeat("&", api.MaxText))), "", api.ErrLong)
	// Just that long, and one more, wherever that comes to lie.
	pad := func(n int) []api.Tree { return []api.Tree{text(most), text(most[:n])} }
	last := forest(el("a", append(slices.Clone(l[:14]), pad(api.MaxText-7)...)...))
	prints(t, last, wantPrint(last), api.OK)
	if n := len(wantPrint(last)); n != api.MaxBytes {
		t.Fatal(n)
	}
	prints(t, forest(el("a", append(slices.Clone(l[:14]), pad(api.MaxText-6)...)...)), "", api.ErrLong)
	prints(t, forest(el("aa", append(slices.Clone(l[:14]), pad(api.MaxText-7)...)...)), "", api.ErrLong)
}

// P4.2: a forest whose markup would be far too long is told so before it is all written: more of it costs no more memory.
func TestPrintGivesUp(t *testing.T) {
	costs := func(f []api.Tree) float64 {
		return testing.AllocsPerRun(1, func() { prints(t, f, "", api.ErrLong) })
	}
	much := strings.Repeat("&", api.MaxText)
	heavy := func(n int) api.Tree {
		l := attrs(n)
		for i := range l {
			l[i].Value = much
		}
		return with(el("a"), l...)
	}
	for _, x := range []struct {
		what       string
		less, more []api.Tree
	}{
		{"texts", many(5, text(much)), many(1000, text(much))},
		{"texts in one", forest(el("a", many(5, text(much))...)), forest(el("a", many(1000, text(much))...))},
		{"elements", many(5, heavy(1)), many(1000, heavy(1))},
		{"attributes", forest(heavy(5)), forest(heavy(api.MaxAttrs))},
	} {
		if less, more := costs(x.less), costs(x.more); more > less+5 {
			t.Errorf("%s: %v pieces of memory, %v of more", x.what, less, more)
		}
	}
}

// P4.3
func TestNormal(t *testing.T) {
	for _, x := range []struct{ f, want []api.Tree }{
		{nil, nil},
		{forest(text("")), nil},
		{forest(text(""), text("")), nil},
		{forest(text("a"), text(""), text("b")), forest(text("ab"))},
		{forest(text("a"), text("b"), text("c")), forest(text("abc"))},
		{forest(text(""), text("a"), text("")), forest(text("a"))},
		{forest(text("a"), el("e"), text("b")), forest(text("a"), el("e"), text("b"))},
		{forest(text("a"), el("e"), text(""), text("b"), text("c")), forest(text("a"), el("e"), text("bc"))},
		{forest(el("e"), text(""), el("f")), forest(el("e"), el("f"))},
		{forest(el("e", text("")), text("")), forest(el("e"))},
		{forest(el("e", text("a"), text("b"), el("f", text("c"), text(""), text("d")), text("g"), text("h")), text("i"), text("j")), forest(el("e", text("ab"), el("f", text("cd")), text("gh")), text("ij"))},
		{forest(el("e", text("a")), text("b")), forest(el("e", text("a")), text("b"))},
		{forest(text("b"), el("e", text("a"))), forest(text("b"), el("e", text("a")))},
		{forest(with(el("e"), at("a", "1"), at("b", ""))), forest(with(el("e"), at("a", "1"), at("b", "")))},
		{forest(api.Tree{Kind: api.Text, Name: "n", Attrs: attrs(2), Text: "t", Kids: forest(el("k"))}, text("u")), forest(text("tu"))},
		{forest(api.Tree{Kind: api.Element, Name: "e", Text: "t", Kids: forest(text("u"))}), forest(el("e", text("u")))},
	} {
		normals(t, x.f, x.want, api.OK)
	}
}

// P4.3: a text that becomes too long; the bytes of its markup play no part.
func TestNormalLimits(t *testing.T) {
	most := long(api.MaxText)
	normals(t, forest(text(most), text(""), el("a"), text(""), text(most)), forest(text(most), el("a"), text(most)), api.OK)
	normals(t, forest(text(most[1:]), text("x"), text("")), forest(text(most)), api.OK)
	normals(t, forest(text(most), text("x")), nil, api.ErrLong)
	normals(t, forest(text("x"), text(""), text(most)), nil, api.ErrLong)
	normals(t, forest(el("a"), el("a", el("b", text(most), text("x"))), text("y")), nil, api.ErrLong)
	normals(t, many(api.MaxNodes, text(most)), nil, api.ErrLong)
	normals(t, many(api.MaxText/4, text("abcd")), forest(text(strings.Repeat("abcd", api.MaxText/4))), api.OK)
	big := slices.Repeat(forest(text(most), el("a")), api.MaxNodes/2)
	normals(t, big, big, api.OK)
	prints(t, big, "", api.ErrLong)
	prints(t, forest(text(most), text(most)), most+most, api.OK)
	// What can't be is told ahead of what is too long.
	normals(t, forest(text(most), text("x"), el("1")), nil, api.ErrName)
	normals(t, append(forest(text(most), text("x")), many(api.MaxNodes, el("a"))...), nil, api.ErrLong)
}

// P4.2, P4.3, P4.5: forests of all kinds, held against the chapter's words, and there and back.
func TestThereAndBack(t *testing.T) {
	m := newMaker(1)
	sizes := 0
	for range 3000 {
		f := m.forest(1 + m.Intn(4))
		was := copyOf(f)
		s, e := markup.Print(f)
		n, e2 := markup.Normal(f)
		if e != api.OK || e2 != api.OK {
			t.Fatalf("%v: %d, %d", f, e, e2)
		}
		if s != wantPrint(f) {
			t.Fatalf("Print(%v): %q; want %q", f, s, wantPrint(f))
		}
		if !alike(n, wantNormal(f)) || !isNormal(n) {
			t.Fatalf("Normal(%v): %v", f, n)
		}
		reads(t, s, n)
		if !alike(f, was) {
			t.Fatalf("changed: %v; was %v", f, was)
		}
		// A normal form is its own, and prints as what it is of.
		normals(t, n, n, api.OK)
		prints(t, n, s, api.OK)
		apart(t, f, n)
		sizes = max(sizes, len(s))
	}
	if sizes < 1000 {
		t.Errorf("the longest has %d bytes", sizes)
	}
}

// P4.5 at the limits: texts that Normal refuses come back from no markup, and those that it does not refuse do.
func TestThereAndBackAtLimits(t *testing.T) {
	most := long(api.MaxText)
	for _, f := range [][]api.Tree{
		many(api.MaxNodes, el(long(api.MaxName))),
		many(api.MaxNodes, text("x")),
		slices.Repeat(forest(text("x"), el("a")), api.MaxNodes/2),
		forest(chain(api.MaxDepth, text("x")), chain(api.MaxDepth, el("c"))),
		forest(with(el("a", text(most)), at("a", most), at("b", strings.Repeat("&", api.MaxText)))),
		many(16, with(el("a"), attrs(api.MaxAttrs)...)),
		slices.Repeat(forest(text(most), el("a")), 15),
	} {
		s, e := markup.Print(f)
		n, e2 := markup.Normal(f)
		if e != api.OK || e2 != api.OK {
			t.Fatal(e, e2)
		}
		reads(t, s, n)
	}
	s, _ := markup.Print(forest(text(most), text("x")))
	refuses(t, s, api.MaxText, api.ErrLong)
}

// P4.6: what Parse answers can be, is normal, and comes back in one form.
func TestOneForm(t *testing.T) {
	m := newMaker(2)
	for range 3000 {
		f, _, e := markup.Parse(m.write(m.forest(4)))
		if e != api.OK {
			continue
		}
		for _, x := range f {
			if why := tree.Check(x); why != api.OK {
				t.Fatalf("%v can't be: %d", x, why)
			}
		}
		if !isNormal(f) {
			t.Fatalf("%v is not normal", f)
		}
		normals(t, f, f, api.OK)
		s, e := markup.Print(f)
		if e != api.OK {
			t.Fatalf("Print(%v): %d", f, e)
		}
		reads(t, s, f)
	}
}

// P4.6: markup that is longer in one form than it was.
func TestOneFormTooLong(t *testing.T) {
	s := strings.Repeat("<a>"+strings.Repeat(">", api.MaxText-10)+"</a>", 5)
	f, _, e := markup.Parse(s)
	if e != api.OK || len(f) != 5 {
		t.Fatal(len(f), e)
	}
	prints(t, f, "", api.ErrLong)
	normals(t, f, f, api.OK)
	prints(t, f[:4], wantPrint(f[:4]), api.OK)
}

// P4.7: the same forest in any two of its forms is read the same.
func TestFormsAreAlike(t *testing.T) {
	m := newMaker(3)
	for range 3000 {
		f := m.forest(4)
		want := wantNormal(f)
		for range 3 {
			reads(t, m.write(f), want)
		}
	}
}

// P4.7, one by one.
func TestWhatItIsNot(t *testing.T) {
	want := forest(with(el("a", text("xy"), el("b", text("z"))), at("c", "1"), at("d", "2")))
	for _, s := range []string{
		`<a c="1" d="2">xy<b>z</b></a>`,
		`<a c='1' d="2">xy<b>z</b></a>`,
		`<a d="2" c="1">xy<b>z</b></a>`,
		"<a c=\"1\" d=\"2\" \t>xy<b\n>z</b\r></a >",
		`<?q?><a c="1" d="2"><!---->x<!-- <u> --><?r?>y<!-- --><b><??>z<!----></b><!--&--></a><??>`,
	} {
		reads(t, s, want)
	}
	reads(t, "<!-- -->x<!-- -->y", forest(text("xy")))
	reads(t, "<a/>", forest(el("a")))
	reads(t, "<a \r\n\t />", forest(el("a")))
	reads(t, "<a b='c'\n/>", forest(with(el("a"), at("b", "c"))))
}

// What is handed in is not changed, its spare room included; what is answered shares nothing with it.
func TestPrintAndNormalMemory(t *testing.T) {
	spare := append(make([]api.Tree, 0, 8), text("a"), text("b"), with(el("e", append(make([]api.Tree, 0, 4), text("c"))...), append(make([]api.Attr, 0, 4), at("k", "v"))...))
	full := spare[:cap(spare)]
	full[3] = text("spare")
	spare[2].Attrs[:2][1] = at("spare", "spare")
	spare[2].Kids[:2][1] = text("spare")
	was := copyOf(full)
	n, _ := markup.Normal(spare)
	markup.Print(spare)
	markup.Same(spare, n)
	if !alike(full, was) || spare[2].Attrs[:2][1] != at("spare", "spare") || spare[2].Kids[:2][1].Text != "spare" {
		t.Errorf("changed: %v; was %v", full, was)
	}
	apart(t, spare, n)
	again, _ := markup.Normal(spare)
	apart(t, n, again)
	n[1].Attrs[0].Value, n[1].Kids[0].Text, n[0].Text = "other", "other", "other"
	normals(t, spare, forest(text("ab"), with(el("e", text("c")), at("k", "v"))), api.OK)
	// One list handed in at two places is two in the answer.
	shared := forest(text("x"))
	attrs := []api.Attr{at("k", "v")}
	twice, _ := markup.Normal(forest(with(el("a", shared...), attrs...), with(el("b", shared...), attrs...)))
	apart(t, twice, shared)
}
