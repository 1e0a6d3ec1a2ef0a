package eval_test

import (
	"fmt"
	"reflect"
	"slices"
	"testing"

	"espalier/api"
	"espalier/eval"
	"espalier/label"
	"espalier/path"
)

// The examples of the chapter, of chapters 13 and 16, and of the whole, and what is like them.
func TestExamples(t *testing.T) {
	x := index(t, load(t, "<a><b/>x<b/></a>"))
	leads(t, x, "/a/b[2]", first(4))
	leads(t, x, "//b/following-sibling::node()", first(3, 4))
	leads(t, x, "//b[last()]", first(4))
	leads(t, x, `//text()[. = "x"]`, first(3))
	x = index(t, load(t, "<a><b>x</b><b>y</b></a>"))
	leads(t, x, `//b[. = "y"]`, first(4))
	x = index(t, load(t, "<a><b/><c><d/></c><e/></a>"))
	leads(t, x, "//b/following::*", first(3, 4, 5))
	leads(t, x, "//e/preceding::*", first(2, 3, 4))
	leads(t, x, "//e/preceding::*[1]", first(4))
	leads(t, x, "//e/preceding-sibling::*[2]", first(2))
	leads(t, x, "//d/ancestor::*[1]", first(3))
	leads(t, x, "//d/ancestor::node()[last()]", nil)
	leads(t, x, "//d/ancestor::node()[position() < last()]", first(1, 3))
	leads(t, x, "//d/ancestor::node()[last()]/*", first(1))
}

// P15.1: of no document there is no index; of one without nodes there is.
func TestNew(t *testing.T) {
	if x, e := eval.New(nil); x != nil || e != api.ErrArg {
		t.Error(x, e)
	}
	var d label.Doc
	n, _ := d.Insert(api.Last, 0, el("a"))
	gone := d
	gone.Delete(n)
	for _, d := range []*label.Doc{{}, &gone} {
		x := index(t, d)
		for _, s := range []string{"/", "//node()", "*", ".", "..", "//a | /", "a[1]", "descendant-or-self::node()/ancestor-or-self::node()", "self::node()[. or not(.)]"} {
			leads(t, x, s, nil)
		}
		if l, e := x.From(n, read(t, ".")); l != nil || e != api.ErrNode {
			t.Error(l, e)
		}
	}
}

// wrong is queries that can't be.
func wrong() []api.Query {
	one := func(s api.Step) api.Query { return api.Query{Paths: []api.Path{{Steps: []api.Step{s}}}} }
	with := func(e api.Expr) api.Query {
		return one(api.Step{Axis: api.ChildAxis, Test: api.TestAny, Preds: []api.Expr{e}})
	}
	loop := []api.Expr{{Op: "call", Text: "not"}}
	loop[0].Parts = loop
	l := []api.Query{
		{}, {Paths: []api.Path{{}}}, {Paths: []api.Path{{Abs: true}, {}}},
		one(api.Step{}), one(api.Step{Axis: 12, Test: api.TestAny}), one(api.Step{Axis: -1, Test: api.TestNode}), one(api.Step{Axis: 1, Test: 5}), one(api.Step{Axis: 1, Test: api.TestName}),
		one(api.Step{Axis: 1, Test: api.TestName, Name: "1"}), one(api.Step{Axis: 1, Test: api.TestAny, Name: "a"}),
		with(api.Expr{}), with(api.Expr{Op: "xor"}), with(api.Expr{Op: "number", Number: -1}), with(api.Expr{Op: "number", Number: 1000000000}), with(api.Expr{Op: "text", Text: "\"'"}), with(api.Expr{Op: "text", Text: "\x00"}),
		with(api.Expr{Op: "attr"}), with(api.Expr{Op: "query"}), with(api.Expr{Op: "or"}), with(api.Expr{Op: "=", Parts: make([]api.Expr, 3)}), with(api.Expr{Op: "call", Text: "none"}), with(api.Expr{Op: "call", Text: "not"}), with(loop[0]),
	}
	long := api.Query{}
	for range api.MaxExprs + 1 {
		long.Paths = append(long.Paths, api.Path{Abs: true})
	}
	return append(l, long)
}

// P15.1, P15.2: of a query that can't be all calls answer ErrArg and nothing else, whatever the node is.
func TestWrongQueries(t *testing.T) {
	x := index(t, ways(t))
	for _, q := range wrong() {
		for _, n := range []api.Handle{0, hd(1, 1), 99} {
			if l, e := x.From(n, q); len(l) != 0 || e != api.ErrArg {
				t.Errorf("From: %x, %d", l, e)
			}
		}
		if l, e := x.Eval(q); len(l) != 0 || e != api.ErrArg {
			t.Errorf("Eval: %x, %d", l, e)
		}
		if n, e := x.Count(q); n != 0 || e != api.ErrArg {
			t.Errorf("Count: %d, %d", n, e)
		}
		if n, e := x.First(q); n != 0 || e != api.ErrArg {
			t.Errorf("First: %x, %d", n, e)
		}
	}
}

// P15.1: From of what is neither 0 nor a node.
func TestNoNodes(t *testing.T) {
	d := load(t, "<a><b/>x</a>")
	d.Delete(hd(2, 1))
	d.Insert(api.Last, 0, el("c"))
	x := index(t, d)
	for _, n := range []api.Handle{1, 2, 99, hd(0, 1), hd(2, 1), hd(2, 3), hd(1, 2), hd(4, 1), hd(1<<31, 1), hd(1<<32-1, 1<<32-1)} {
		for _, s := range []string{".", "//a", "/", "zz"} {
			if l, e := x.From(n, read(t, s)); len(l) != 0 || e != api.ErrNode {
				t.Errorf("From(%x, %s): %x, %d", n, s, l, e)
			}
		}
	}
	for _, n := range []api.Handle{hd(1, 1), hd(2, 2), hd(3, 1)} {
		all(t, x, n, read(t, "."), []api.Handle{n})
		all(t, x, n, read(t, "//c"), []api.Handle{hd(2, 2)})
	}
	all(t, x, 0, read(t, "."), nil)
}

// P15.2: of a text that is no query Ask answers Parse's place and error.
func TestAskWrong(t *testing.T) {
	x := index(t, ways(t))
	texts := []string{"", " ", "a[", "a[1", "a = b", "foo::a", "a[\"x]", "a]", "//", "a b", "@k", "a/", "a[@]", "a[1=]", "a[007]", "a[not()]", "text(", "a[\"\x00\"]", "a:b", "1", "a" + repeat("b", 32), repeat("a/", 256) + "a", "a" + repeat("[a", 17), repeat(" ", api.MaxQuery) + "a"}
	for _, s := range texts {
		_, at, why := path.Parse(s)
		if why == api.OK {
			t.Fatalf("%q can be", s)
		}
		if l, i, e := x.Ask(s); len(l) != 0 || i != at || e != why {
			t.Errorf("Ask(%q): %x, %d, %d; want %d, %d", s, l, i, e, at, why)
		}
	}
	m := newMaker(4)
	for range 5000 {
		s := ""
		for range 1 + m.IntN(7) {
			s += pick(m.Rand, []string{"a", "b", "/", "//", "[", "]", "(", ")", "1", "\"", "x", "@k", " ", "::", "child", "not", "text()", "*", ".", "|", "=", "or", "é"})
		}
		q, at, why := path.Parse(s)
		var want []api.Handle
		if why == api.OK {
			want, _ = x.Eval(q)
		}
		if l, i, e := x.Ask(s); !slices.Equal(l, want) || i != at || e != why {
			t.Errorf("Ask(%q): %x, %d, %d; want %x, %d, %d", s, l, i, e, want, at, why)
		}
	}
}

// P15.2: a text that can be is asked, blanks and all, and no place is told.
func TestAskRight(t *testing.T) {
	x := index(t, ways(t))
	for _, s := range []string{" // a [ 2 ] ", "//a[2]", "\t//a\n[2]\r"} {
		l, at, e := x.Ask(s)
		if !slices.Equal(l, first(20)) || at != 0 || e != api.OK {
			t.Errorf("Ask(%q): %x, %d, %d", s, l, at, e)
		}
	}
}

// An index is of the document as it stood, whatever is done to that; and asking changes nothing in the document.
func TestAsItStood(t *testing.T) {
	m := newMaker(5)
	for range 60 {
		d := plant(t, m.forest(4, 4))
		x, w := index(t, d), newWorld(d)
		was, tags, writes := d.Tree().Image(), d.Tags(), d.Writes()
		nodes := places(d)
		for range 10 {
			x.Eval(m.query(9))
		}
		if !reflect.DeepEqual(d.Tree().Image(), was) || d.Tags() != tags || d.Writes() != writes {
			t.Fatal("changed")
		}
		for range 20 {
			m.edit(d)
			q, n := m.query(1+m.IntN(9)), pick(m.Rand, nodes)
			all(t, x, n, q, w.answers(n, q))
			all(t, x, 0, q, w.answers(0, q))
		}
		y, v := index(t, d), newWorld(d)
		for range 5 {
			q, n := m.query(1+m.IntN(9)), m.node(d)
			all(t, y, n, q, v.answers(n, q))
		}
	}
}

// What is handed in is not changed and not kept, and an answer is nobody else's.
func TestMemory(t *testing.T) {
	m := newMaker(6)
	d := ways(t)
	x, w := index(t, d), newWorld(d)
	for range 500 {
		q, n := m.query(1+m.IntN(12)), m.node(d)
		for i := range q.Paths {
			q.Paths[i].Steps = slices.Grow(q.Paths[i].Steps, 3)
		}
		was := copyOf(q)
		want := w.answers(n, q)
		for range 2 {
			l, _ := x.From(n, q)
			if !slices.Equal(l, want) {
				t.Fatalf("%s: %x; want %x", written(q), l, want)
			}
			l = l[:cap(l)]
			for i := range l {
				l[i] = 77
			}
			x.Eval(q)
			x.Count(q)
			x.First(q)
		}
		if !reflect.DeepEqual(copyOf(q), was) {
			t.Fatalf("changed: %+v; was %+v", q, was)
		}
	}
}

// Two indexes know nothing of one another; what one was asked changes nothing in what it answers.
func TestApart(t *testing.T) {
	d := ways(t)
	x := index(t, d)
	d.Delete(hd(2, 1))
	y := index(t, d)
	for range 3 {
		leads(t, y, "//a", first(16, 20))
		leads(t, x, "//a", first(2, 5, 8, 16, 20))
		leads(t, x, "//a[b]", first(2, 5))
		leads(t, x, "//a[not(b)][2]", nil)
		leads(t, x, "//a[b][1]", first(2, 5))
	}
}

// An index that no call made tells what it likes, but does not panic.
func TestZero(t *testing.T) {
	for _, s := range []string{"/", ".", "//a[1]", "..", "a[b = 1]/following::*"} {
		var x eval.Index
		x.Ask(s)
		x.From(hd(1, 1), read(t, s))
		x.Count(read(t, s))
		x.First(read(t, s))
	}
}

// Of what goes by texts: those of an element are all within it, of the document there are none that a query leads to; attributes are an element's own.
func TestTexts(t *testing.T) {
	x := index(t, load(t, `<a k="ab">x<b>y<c/>z</b></a>u<d k="7">7</d>`))
	for s, want := range map[string][]api.Handle{
		`//*[. = "xyz"]`:                             first(1),
		`//*[string(.) = "yz"]`:                      first(3),
		`//node()[. = "u"]`:                          first(7),
		`//*[. = ""]`:                                first(5),
		`//*[@k = .]`:                                first(8),
		`//node()[@k]`:                               first(1, 8),
		`//node()[name() = ""]`:                      first(2, 4, 6, 7, 9),
		`//node()[name() = "b"]`:                     first(3),
		`//*[sum(/d) = 7]`:                           first(1, 3, 5, 8),
		`//*[length(.) = 3]`:                         first(1),
		`//*[length(@k) = 2]`:                        first(1),
		`//*[contains(., "yz")]`:                     first(1, 3),
		`//*[starts(text(), "y")]`:                   first(3),
		`self::node()[. = "xyzu7"]/*`:                nil,
		`self::node()[string(.) = ""]/*`:             first(1, 8),
		`self::node()[contains(string(*), "xyz")]/*`: first(1, 8),
		`self::node()[name() = ""][not(@k)]/*`:       first(1, 8),
		`self::node()[.]/*`:                          nil,
		`self::node()[..]/*`:                         nil,
		`*[..]`:                                      nil,
		`self::node()[*]/*`:                          first(1, 8),
		`self::node()[count(.//node()) = 9]/d`:       first(8),
		`self::node()[position() = 1][last() = 1]/d`: first(8),
		`self::node()[2]/d`:                          nil,
		`//c/ancestor::node()[3]/*`:                  first(1, 8),
		`//c/ancestor-or-self::node()[4]`:            nil,
		`//c/ancestor-or-self::node()[3]`:            first(1),
		`/*/../*`:                                    first(1, 8),
		`/../*`:                                      nil,
		`//text()[following::text()[3]]`:             first(2, 4),
		`//text()[preceding::*[1]]`:                  first(6, 7, 9),
		`//text()[count(ancestor::*) = 1]`:           first(2, 9),
	} {
		leads(t, x, s, want)
	}
}

// All of the signs and functions between what stands in nodes, by one list of nodes.
func TestValues(t *testing.T) {
	f := []api.Tree{}
	for i := range 12 {
		f = append(f, el("n", text(fmt.Sprint(i))))
	}
	x := index(t, plant(t, f))
	n := func(from, to int) []api.Handle {
		var l []api.Handle
		for i := from; i < to; i++ {
			l = append(l, hd(uint64(2*i+1), 1))
		}
		return l
	}
	for s, want := range map[string][]api.Handle{
		"/n[. = 3]": n(3, 4), "/n[. < 3]": n(0, 3), "/n[. <= 3]": n(0, 4), "/n[. > 9]": n(10, 12), "/n[. >= 9]": n(9, 12), "/n[. != 0]": n(1, 12),
		"/n[. = /n]": n(0, 12), "/n[. < /n]": n(0, 11), "/n[. = position()]": nil, "/n[. < position()]": n(0, 12), "/n[position() = 4]": n(3, 4), "/n[number(.)]": nil, "/n[count(/n)]": n(11, 12),
		"/n[sum(preceding-sibling::n) = 10]": n(5, 6), "/n[count(following-sibling::n) = 2]": n(9, 10), "/n[not(. < 9)][2]": n(10, 11), "/n[2 = last()]": nil, "/n[last() = 12][3]": n(2, 3),
	} {
		leads(t, x, s, want)
	}
}
