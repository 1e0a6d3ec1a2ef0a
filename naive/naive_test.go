package naive_test

import (
	"reflect"
	"slices"
	"testing"

	"espalier/api"
	"espalier/eval"
	"espalier/label"
	"espalier/naive"
	"espalier/path"
	"espalier/tree"
)

// The examples of the chapter, of chapters 10, 13, 14 and 15, and of the whole, and what is like them.
func TestExamples(t *testing.T) {
	d := load(t, "<a><b/>x<b/></a>")
	leads(t, d, "/a/b[2]", first(4))
	leads(t, d, "//b[last()]", first(4))
	leads(t, d, `//text()[. = "x"]`, first(3))
	leads(t, d, "//b/following-sibling::node()", first(3, 4))
	for n, want := range map[api.Handle]bool{hd(1, 1): false, hd(2, 1): true, hd(3, 1): false, hd(4, 1): true} {
		if is, e := naive.Match(d, n, read(t, "a/b")); is != want || e != api.OK {
			t.Errorf("%x: %t, %d", n, is, e)
		}
	}
	leads(t, load(t, "<a><b>x</b><b>y</b></a>"), `//b[. = "y"]`, first(4))
	d = load(t, "<a><b/><c><d/></c><e/></a>")
	leads(t, d, "//b/following::*", first(3, 4, 5))
	leads(t, d, "//e/preceding::*", first(2, 3, 4))
	leads(t, d, "//e/preceding::*[1]", first(4))
	leads(t, d, "//e/preceding-sibling::*[2]", first(2))
	leads(t, d, "//d/ancestor::*[1]", first(3))
	leads(t, d, "//d/ancestor::node()[last()]", nil)
	leads(t, d, "//d/ancestor::node()[position() < last()]", first(1, 3))
	leads(t, d, "//d/ancestor::node()[last()]/*", first(1))
	leads(t, d, "//d/../..", first(1))
	leads(t, d, "//d/../../..", nil)
	leads(t, d, "//d/../../../*", first(1))
}

// wrong is queries that can't be.
func wrong() []api.Query {
	l := []api.Query{
		{}, {Paths: []api.Path{{}}}, {Paths: []api.Path{{Abs: true}, {}}},
		stepped(0, 0, ""), stepped(12, api.TestAny, ""), stepped(-1, api.TestNode, ""), stepped(1, 5, ""), stepped(1, api.TestName, ""), stepped(1, api.TestName, "1"), stepped(1, api.TestAny, "a"),
	}
	for _, e := range wrongExprs() {
		l = append(l, holder(e))
	}
	long := api.Query{}
	for range api.MaxExprs + 1 {
		long.Paths = append(long.Paths, api.Path{Abs: true})
	}
	return append(l, long)
}

// wrongExprs is expressions that can't be.
func wrongExprs() []api.Expr {
	deep := api.Expr{Op: "call", Text: "true"}
	for range api.MaxNest {
		deep = api.Expr{Op: "call", Text: "not", Parts: []api.Expr{deep}}
	}
	return []api.Expr{
		{}, {Op: "xor"}, {Op: "number", Number: -1}, {Op: "number", Number: 1000000000}, {Op: "text", Text: "\"'"}, {Op: "text", Text: "\x00"},
		{Op: "attr"}, {Op: "attr", Text: "1"}, {Op: "query"}, {Op: "query", Query: stepped(12, api.TestNode, "")}, {Op: "or"}, {Op: "=", Parts: make([]api.Expr, 3)}, {Op: "and", Parts: []api.Expr{{Op: "number"}, {}}},
		{Op: "call", Text: "none"}, {Op: "call", Text: "not"}, {Op: "call", Text: "true", Parts: []api.Expr{{Op: "number"}}}, loop(), deep,
	}
}

// P16.1: no document, queries that can't be, and what is no node: the first of these tells, and there is nothing beside it.
func TestWrong(t *testing.T) {
	d, right := ways(t), read(t, "//a | .")
	refuses := func(d *tree.Doc, n api.Handle, q api.Query, why api.Errno) {
		t.Helper()
		if l, e := naive.From(d, n, q); l != nil || e != why {
			t.Errorf("From(%x, %.100s): %x, %d; want %d", n, written(q), l, e, why)
		}
		if n != 0 {
			return
		}
		if l, e := naive.Eval(d, q); l != nil || e != why {
			t.Errorf("Eval(%.100s): %x, %d; want %d", written(q), l, e, why)
		}
	}
	for _, n := range append(noNodes(), 0, hd(1, 1)) {
		refuses(nil, n, right, api.ErrArg)
		for _, q := range wrong() {
			refuses(d, n, q, api.ErrArg)
			refuses(nil, n, q, api.ErrArg)
		}
	}
	for _, n := range noNodes() {
		for _, s := range []string{".", "//a", "/", "zz", "self::node()[..]"} {
			refuses(d, n, read(t, s), api.ErrNode)
			refuses(&tree.Doc{}, n, read(t, s), api.ErrNode)
		}
	}
	refuses(&tree.Doc{}, hd(1, 1), right, api.ErrNode)
	d.Delete(hd(2, 1))
	refuses(d, hd(2, 1), right, api.ErrNode)
	d.Insert(api.Last, 0, el("z"))
	refuses(d, hd(2, 1), right, api.ErrNode)
	all(t, d, hd(2, 2), read(t, "."), []api.Handle{hd(2, 2)})
	all(t, d, 0, read(t, "."), nil)
}

// P16.1: a document without nodes leads nowhere, but is one.
func TestEmpty(t *testing.T) {
	gone := load(t, "<a/>")
	gone.Delete(hd(1, 1))
	for _, d := range []*tree.Doc{{}, gone} {
		for _, s := range []string{"/", "//node()", "*", ".", "..", "//a | /", "a[1]", "descendant-or-self::node()/ancestor-or-self::node()", "self::node()[. or not(.)]"} {
			leads(t, d, s, nil)
		}
		if is, e := naive.Holds(d, 0, expr(t, "count(//node()) = 0 and position() = 1")); !is || e != api.OK {
			t.Error(is, e)
		}
		if is, e := naive.Match(d, hd(1, 1), read(t, ".")); is || e != api.ErrNode {
			t.Error(is, e)
		}
	}
}

// P16.1: of a text that is no query Ask answers Parse's place and error; without a document it reads nothing.
func TestAskWrong(t *testing.T) {
	d := ways(t)
	texts := []string{"", " ", "a[", "a[1", "a = b", "foo::a", "a[\"x]", "a]", "//", "a b", "@k", "a/", "a[@]", "a[1=]", "a[007]", "a[not()]", "text(", "a[\"\x00\"]", "a:b", "1", "a" + repeat("b", 32), repeat("a/", 256) + "a", "a" + repeat("[a", 17), repeat(" ", api.MaxQuery) + "a"}
	for _, s := range texts {
		_, at, why := path.Parse(s)
		if why == api.OK {
			t.Fatalf("%q can be", s)
		}
		if l, i, e := naive.Ask(d, s); l != nil || i != at || e != why {
			t.Errorf("Ask(%q): %x, %d, %d; want %d, %d", s, l, i, e, at, why)
		}
	}
	for _, s := range append(texts, "//a", ".") {
		if l, i, e := naive.Ask(nil, s); l != nil || i != 0 || e != api.ErrArg {
			t.Errorf("Ask(nil, %q): %x, %d, %d", s, l, i, e)
		}
	}
	m, w := newMaker(4), newWorld(d)
	for range 5000 {
		s := ""
		for range 1 + m.IntN(7) {
			s += pick(m.Rand, []string{"a", "b", "/", "//", "[", "]", "(", ")", "1", "\"", "x", "@k", " ", "::", "child", "not", "text()", "*", ".", "|", "=", "or", "é"})
		}
		q, at, why := path.Parse(s)
		var want []api.Handle
		if why == api.OK {
			want = w.answers(0, q)
		}
		if l, i, e := naive.Ask(d, s); !slices.Equal(l, want) || i != at || e != why {
			t.Errorf("Ask(%q): %x, %d, %d; want %x, %d, %d", s, l, i, e, want, at, why)
		}
	}
}

// P16.1: a text that can be is asked, blanks and all, and no place is told.
func TestAskRight(t *testing.T) {
	d := ways(t)
	for _, s := range []string{" // a [ 2 ] ", "//a[2]", "\t//a\n[2]\r"} {
		l, at, e := naive.Ask(d, s)
		if !slices.Equal(l, first(20)) || at != 0 || e != api.OK {
			t.Errorf("Ask(%q): %x, %d, %d", s, l, at, e)
		}
	}
}

// P16.2: no document, expressions that can't be, and what is no node: the first of these tells.
func TestExprsWrong(t *testing.T) {
	d, right := ways(t), expr(t, "true()")
	refuses := func(d *tree.Doc, n api.Handle, e api.Expr, why api.Errno) {
		t.Helper()
		if is, fault := naive.Holds(d, n, e); is || fault != why {
			t.Errorf("Holds(%x, %s): %t, %d; want %d", n, written(holder(e)), is, fault, why)
		}
		if v, fault := naive.Value(d, n, e); !same(v, api.Value{}) || fault != why {
			t.Errorf("Value(%x, %s): %+v, %d; want %d", n, written(holder(e)), v, fault, why)
		}
	}
	for _, n := range append(noNodes(), 0, hd(1, 1)) {
		refuses(nil, n, right, api.ErrArg)
		for _, e := range wrongExprs() {
			refuses(d, n, e, api.ErrArg)
			refuses(nil, n, e, api.ErrArg)
		}
	}
	for _, n := range noNodes() {
		for _, s := range []string{"true()", "1", "@k", ".", "//a", "0"} {
			refuses(d, n, expr(t, s), api.ErrNode)
		}
	}
	refuses(&tree.Doc{}, hd(1, 1), right, api.ErrNode)
}

// P16.2: what expressions come to at an element, a text, and the document, and whether they hold there.
func TestExprs(t *testing.T) {
	d := load(t, `<a k="ab" m="7">x<b>y<c/>z</b></a>u<d k="7">7</d>`)
	yes, no := api.Value{Kind: api.VBool, Bool: true}, api.Value{Kind: api.VBool}
	number := func(n int64) api.Value { return api.Value{Kind: api.VNumber, Num: n} }
	words := func(s string) api.Value { return api.Value{Kind: api.VText, Text: s} }
	nodes := func(l ...string) api.Value { return api.Value{Kind: api.VNodes, Texts: l} }
	const doc, a, x, c, u = 0, 1<<32 + 1, 1<<32 + 2, 1<<32 + 5, 1<<32 + 7
	for _, z := range []struct {
		n     api.Handle
		s     string
		v     api.Value
		holds bool
	}{
		{a, "true()", yes, true}, {doc, "false()", no, false}, {u, "not(@k)", yes, true},
		{a, "1", number(1), true}, {x, "2", number(2), false}, {doc, "0", number(0), false},
		{a, "position()", number(1), true}, {u, "last()", number(1), true}, {doc, "position() = 1 and last() = 1", yes, true},
		{a, `"t"`, words("t"), true}, {a, `""`, words(""), false},
		{a, "name()", words("a"), true}, {u, "name()", words(""), false}, {doc, "name()", words(""), false},
		{a, "@k", nodes("ab"), true}, {a, "@m = 7", yes, true}, {a, "@z", nodes(), false}, {x, "@k", nodes(), false}, {doc, "@k", nodes(), false},
		{a, ".", nodes("xyz"), true}, {u, ".", nodes("u"), true}, {c, ".", nodes(""), true}, {doc, ".", nodes(), false}, {doc, "..", nodes(), false}, {a, "..", nodes(), false},
		{a, "text()", nodes("x"), true}, {a, ".//text()", nodes("x", "y", "z"), true}, {doc, "*", nodes("xyz", "7"), true}, {doc, "node()", nodes("xyz", "u", "7"), true},
		{a, "b | //d", nodes("yz", "7"), true}, {a, "//d | b", nodes("yz", "7"), true}, {c, "ancestor::*", nodes("xyz", "yz"), true}, {c, "preceding::node()[1]", nodes("y"), true},
		{u, "preceding-sibling::a[@k]", nodes("xyz"), true},
		{a, "count(b/node())", number(3), false}, {doc, "count(a)", number(1), true}, {a, "sum(//d)", number(7), false}, {a, "sum(//node())", api.Value{Kind: api.VNumber, None: true}, false}, {a, "number(@k)", api.Value{Kind: api.VNumber, None: true}, false}, {c, "number(/d)", number(7), false},
		{doc, "string(*)", words("xyz"), true}, {doc, "length(string(.))", number(0), false}, {a, "length(.)", number(3), false}, {a, `contains(., "yz")`, yes, true}, {a, `starts(., "yz")`, no, false},
		{a, "@m = //d", yes, true}, {a, "@m < //d", no, false}, {doc, "a or zz", yes, true}, {doc, "a and zz", no, false},
	} {
		e := expr(t, z.s)
		if v, fault := naive.Value(d, z.n, e); !same(v, z.v) || fault != api.OK {
			t.Errorf("Value(%x, %s): %+v, %d; want %+v", z.n, z.s, v, fault, z.v)
		}
		if is, fault := naive.Holds(d, z.n, e); is != z.holds || fault != api.OK {
			t.Errorf("Holds(%x, %s): %t, %d; want %t", z.n, z.s, is, fault, z.holds)
		}
	}
}

// P16.3: no document, queries that can't be, and what is no node, 0 among it: the first of these tells.
func TestMatchWrong(t *testing.T) {
	d, right := ways(t), read(t, "//node() | /")
	refuses := func(d *tree.Doc, n api.Handle, q api.Query, why api.Errno) {
		t.Helper()
		if is, e := naive.Match(d, n, q); is || e != why {
			t.Errorf("Match(%x, %.100s): %t, %d; want %d", n, written(q), is, e, why)
		}
	}
	for _, n := range append(noNodes(), 0, hd(1, 1)) {
		refuses(nil, n, right, api.ErrArg)
		for _, q := range wrong() {
			refuses(d, n, q, api.ErrArg)
			refuses(nil, n, q, api.ErrArg)
		}
	}
	for _, n := range append(noNodes(), 0) {
		for _, s := range []string{".", "//node()", "zz", "/", "self::node()"} {
			refuses(d, n, read(t, s), api.ErrNode)
			refuses(&tree.Doc{}, n, read(t, s), api.ErrNode)
		}
	}
}

// P16.3: which nodes a query means: each is told by its path from one that is it, or around it, or from the document.
func TestMatch(t *testing.T) {
	d := load(t, `<a><b><c k="1"/>x</b><c><b/></c></a><b/>`) // a 1, b 2, c 3, x 4, c 5, b 6, b 7
	for s, want := range map[string][]api.Handle{
		"b": first(2, 6, 7), "a/b": first(2), "//b": first(2, 6, 7), "/b": first(7), "/a/b": first(2), "a//b": first(2, 6), "c/b": first(6), "*/*/b": first(6),
		".": first(1, 2, 3, 4, 5, 6, 7), "self::b": first(2, 6, 7), "..": nil, "../*": first(1, 2, 3, 5, 6, 7), "/": nil, "zz": nil, "text()": first(4), "node()": first(1, 2, 3, 4, 5, 6, 7), "b/text()": first(4),
		"b[1]": first(2, 6, 7), "b[2]": nil, "*[2]": first(5, 7), "*[last()]": first(3, 5, 6, 7), "b[c]": first(2), "c[@k = 1]": first(3), "b/c | /b": first(3, 7), "following::b": nil, "//following::b": first(6, 7), "a/following::*": first(7), "c/following::c": nil, "b/following::c": first(5), "c/preceding::*": first(2, 3),
		"ancestor::*": nil, "ancestor-or-self::*[1]": first(1, 2, 3, 5, 6, 7), "c/..": first(1, 2), "*[..]": first(2, 3, 5, 6), "/*": first(1, 7), "descendant::c[1]": first(3), "descendant::c[2]": first(5), "//c[1]": first(3, 5), "/descendant::c[1]": first(3), "a | a/b": first(1, 2),
	} {
		for _, n := range places(d)[1:] {
			is, e := naive.Match(d, n, read(t, s))
			if is != slices.Contains(want, n) || e != api.OK {
				t.Errorf("Match(%x, %s): %t, %d", n, s, is, e)
			}
		}
	}
}

// P16.1, P16.2, P16.3: any query and any expression at any place of any document, however that came to be, as the words say; and whatever is not used plays no part.
func TestAny(t *testing.T) {
	t.Parallel()
	m := newMaker(1)
	some, asked, meant := 0, 0, 0
	for range 1000 {
		d := plant(t, append(m.forest(3, 4), m.forest(4, 4)...))
		for range m.IntN(8) {
			m.edit(d)
		}
		w := newWorld(d)
		for range 12 {
			q := m.query(1 + m.IntN(14))
			if path.Check(q) != api.OK {
				t.Fatalf("made what can't be: %+v", q)
			}
			for _, n := range []api.Handle{0, m.node(d), m.node(d)} {
				want := w.answers(n, q)
				if !all(t, d, n, q, want) || !all(t, d, n, litter(q), want) {
					t.Fatal(plain(d))
				}
				asked++
				if len(want) > 0 {
					some++
				}
				if n == 0 {
					continue
				}
				is, e := naive.Match(d, n, litter(q))
				if is != w.matches(n, q) || e != api.OK {
					t.Fatalf("Match(%x, %s) in %s: %t, %d", n, written(q), plain(d), is, e)
				}
				if is {
					meant++
				}
			}
			if l, at, e := naive.Ask(d, written(q)); !slices.Equal(l, w.answers(0, q)) || at != 0 || e != api.OK {
				t.Fatalf("Ask(%s): %x, %d, %d", written(q), l, at, e)
			}
		}
	}
	if some < asked/4 || meant < 1000 {
		t.Errorf("only %d of %d lead to anything, %d nodes are meant", some, asked, meant)
	}
}

// P16.2: any expression at any place.
func TestAnyExpr(t *testing.T) {
	t.Parallel()
	m := newMaker(2)
	kinds, holding := map[int]int{}, 0
	for range 800 {
		d := plant(t, m.forest(4, 4))
		w := newWorld(d)
		for range 20 {
			m.left = 1 + m.IntN(10)
			e, n := m.expr(1), m.node(d)
			want, holds := w.values(n, e)
			for _, e := range []api.Expr{e, litter(holder(e)).Paths[0].Steps[0].Preds[0]} {
				if v, fault := naive.Value(d, n, e); !same(v, want) || fault != api.OK {
					t.Fatalf("Value(%x, %s) in %s: %+v, %d; want %+v", n, written(holder(e)), plain(d), v, fault, want)
				}
				if is, fault := naive.Holds(d, n, e); is != holds || fault != api.OK {
					t.Fatalf("Holds(%x, %s) in %s: %t, %d; want %t", n, written(holder(e)), plain(d), is, fault, holds)
				}
			}
			kinds[want.Kind]++
			if holds {
				holding++
			}
		}
	}
	for _, kind := range []int{api.VBool, api.VNumber, api.VText, api.VNodes} {
		if kinds[kind] < 500 {
			t.Error("too few of a kind:", kinds)
		}
	}
	if holding < 2000 {
		t.Error("too few hold:", holding)
	}
}

// P15.3: eval answers the same.
func TestAsEval(t *testing.T) {
	t.Parallel()
	m := newMaker(3)
	for range 400 {
		d := plant(t, append(m.forest(3, 4), m.forest(4, 5)...))
		l, e := label.Load(d.Image())
		if e != api.OK {
			t.Fatal(e)
		}
		x, e := eval.New(l)
		if e != api.OK {
			t.Fatal(e)
		}
		for range 20 {
			q, n := m.query(1+m.IntN(20)), m.node(d)
			want, _ := x.From(n, q)
			all(t, d, n, q, want)
			want, _ = x.Eval(q)
			all(t, d, 0, q, want)
		}
	}
}

// What is handed in is not changed and not kept, and an answer is nobody else's.
func TestMemory(t *testing.T) {
	m := newMaker(6)
	d := ways(t)
	w, was := newWorld(d), d.Image()
	for range 500 {
		q, n := m.query(1+m.IntN(12)), m.node(d)
		for i := range q.Paths {
			q.Paths[i].Steps = slices.Grow(q.Paths[i].Steps, 3)
		}
		m.left = 6
		e := m.expr(1)
		asked, expr := copyOf(q), copyOf(e)
		want, v := w.answers(n, q), api.Value{}
		v, _ = w.values(n, e)
		for range 2 {
			l, _ := naive.From(d, n, q)
			if !slices.Equal(l, want) {
				t.Fatalf("%s: %x; want %x", written(q), l, want)
			}
			l = l[:cap(l)]
			for i := range l {
				l[i] = 77
			}
			x, _ := naive.Value(d, n, e)
			if !same(x, v) {
				t.Fatalf("%s: %+v; want %+v", written(holder(e)), x, v)
			}
			for i := range x.Texts[:cap(x.Texts)] {
				x.Texts[:cap(x.Texts)][i] = "spoilt"
			}
			naive.Eval(d, q)
			naive.Holds(d, n, e)
			naive.Match(d, n, q)
		}
		if !reflect.DeepEqual(copyOf(q), asked) || !reflect.DeepEqual(copyOf(e), expr) {
			t.Fatalf("changed: %+v; was %+v", q, asked)
		}
	}
	if !reflect.DeepEqual(d.Image(), was) {
		t.Error("changed")
	}
}

// The document is asked as it is at each call; nothing is kept from one to the next.
func TestAsItIs(t *testing.T) {
	d := load(t, "<a><b/></a>")
	leads(t, d, "//b[1]", first(2))
	d.SetName(hd(2, 1), "c")
	leads(t, d, "//b[1]", nil)
	leads(t, d, "//c[1]", first(2))
	n, _ := d.Insert(api.First, hd(1, 1), el("c"))
	leads(t, d, "//c[1]", []api.Handle{n})
	leads(t, d, "//c", []api.Handle{n, hd(2, 1)})
	d.SetAttr(n, "k", "1")
	if v, e := naive.Value(d, n, expr(t, "@k")); !same(v, api.Value{Kind: api.VNodes, Texts: []string{"1"}}) || e != api.OK {
		t.Error(v, e)
	}
	d.Move(n, api.Last, 0)
	leads(t, d, "/c", []api.Handle{n})
	if is, _ := naive.Match(d, n, read(t, "a/c")); is {
		t.Error("still in a")
	}
}
