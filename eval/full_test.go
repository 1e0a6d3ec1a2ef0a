package eval_test

import (
	"slices"
	"strconv"
	"strings"
	"testing"
	"time"

	"espalier/api"
	"espalier/eval"
	"espalier/label"
	"espalier/path"
)

// soon: the text leads to so many nodes, the first and the last of which are these (of the first generation), within a time that leaves room for slow machines, but not for asking each place of each place of each place.
func soon(t *testing.T, x *eval.Index, s string, n int, from, to uint64) {
	t.Helper()
	begin := time.Now()
	l, at, e := x.Ask(s)
	if took := time.Since(begin); took > time.Minute {
		t.Errorf("%.80s took %v", s, took)
	}
	if e != api.OK || at != 0 || len(l) != n || n > 0 && (l[0] != hd(from, 1) || l[n-1] != hd(to, 1)) {
		t.Errorf("%.80s: %d from %x on, %d, %d; want %d from %d to %d", s, len(l), l[:min(1, len(l))], at, e, n, from, to)
	}
}

// wide is a document of one element with all others in it, so many in all.
func wide(t *testing.T, n int) *label.Doc {
	x := el("w")
	for range n - 1 {
		x.Kids = append(x.Kids, el("a"))
	}
	return plant(t, []api.Tree{x})
}

// tall is a full document of chains as deep as can be.
func tall(t *testing.T) *label.Doc {
	return plant(t, slices.Repeat([]api.Tree{chain(api.MaxDepth, "a")}, api.MaxNodes/api.MaxDepth))
}

// nested is a query with a predicate in a predicate, as deep as can be.
func nested(s string) string {
	return "//*" + repeat("["+s, api.MaxNest) + repeat("]", api.MaxNest)
}

// Every call ends, and soon: also where each node of a full document is asked for others, in predicates as deep as they can be.
func TestWide(t *testing.T) {
	t.Parallel()
	const n = api.MaxNodes
	x := index(t, wide(t, n))
	soon(t, x, "//*", n, 1, n)
	soon(t, x, "/w/a[2]", 1, 3, 3)
	soon(t, x, "//a[last()]", 1, n, n)
	soon(t, x, "//a[position() = last()]", 1, n, n)
	soon(t, x, "//*/following::*[2]", n-3, 4, n)
	soon(t, x, nested("following::*"), n-1-16, 2, n-16)
	soon(t, x, nested("preceding-sibling::*"), n-1-16, 18, n)
	soon(t, x, nested("..//*"), n, 1, n)
	soon(t, x, "//*[count(//a) = "+strconv.Itoa(n-1)+"]", n, 1, n)
	soon(t, x, "//*"+repeat("/following::*/preceding::*", 100), n-2, 2, n-1)
	long := repeat("ancestor-or-self::*/descendant-or-self::*/", 45)
	soon(t, x, "//*["+long+long+"a]", n, 1, n)
	soon(t, x, "//*[not("+long+"b) and (zz or "+long+"a)]", n, 1, n)
}

// Where each node is told all others, or each turn is asked for, it takes as long as there are pairs, not longer.
func TestPairs(t *testing.T) {
	t.Parallel()
	const n = api.MaxNodes / 4
	x := index(t, wide(t, n))
	soon(t, x, "//*/preceding::*[last()]", 1, 2, 2)
	soon(t, x, "//*/following::*[position() = last()]", 1, n, n)
	soon(t, x, "//*[count(..//*[count(..//*) > 9]) > 9]", n, 1, n)
	soon(t, x, "//*[count(following::*/following::*[position() > 1]) = 5]", 1, n-7, n-7)
	soon(t, x, "//*[following::*/following::*[position() = last()]]", n-1-2, 2, n-2)
	soon(t, x, "//a[following::* = preceding::*]", n-3, 3, n-1)
	x = index(t, wide(t, 2*n))
	soon(t, x, "//*[count(following::*[count(following::*) > 9]) > 9]", 2*n-1-20, 2, 2*n-20)
}

// So it does in documents as deep as they can be.
func TestTall(t *testing.T) {
	t.Parallel()
	x := index(t, tall(t))
	const n = api.MaxNodes
	soon(t, x, "//*", n, 1, n)
	soon(t, x, "//a[2]", 1, 65, 65)
	soon(t, x, nested(".//*"), n/64*48, 1, n-16)
	soon(t, x, nested("ancestor::*"), n/64*48, 17, n)
	soon(t, x, "//*"+repeat("[count(.//*", 8)+repeat(") > 0]", 8), n/64*56, 1, n-8)
	soon(t, x, "/*"+repeat("/*", 63), n/64, 64, n)
	soon(t, x, "/*"+repeat("/*", 64), 0, 0, 0)
	soon(t, x, "//*[count(ancestor::*) = 63]", n/64, 64, n)
	soon(t, x, "//*/ancestor::*[3]", n/64*61, 1, n-3)
	soon(t, x, "//*/descendant::*[last()]", n/64, 64, n)
	soon(t, x, "//*"+repeat("//*", 100), 0, 0, 0)
	soon(t, x, "//*"+repeat("/..//*", 60), n, 1, n)
	soon(t, x, "//*[not(@k = //*"+repeat("/..//*", 60)+")]", n, 1, n)
}

// Queries as great as they can be.
func TestGreatest(t *testing.T) {
	d := ways(t)
	x, w := index(t, d), newWorld(d)
	for _, s := range []string{
		"/" + strings.TrimSuffix(repeat("a/..//", 84), "//"),
		"a" + repeat(" | /", 125) + " | //a/b",
		"//*[" + strings.TrimSuffix(repeat("(/) or ", 84), " or ") + "]",
		"//*[" + strings.TrimSuffix(repeat("1 or ", 120), " or ") + "]",
		"//*" + repeat("[true()]", 126),
		"//*" + repeat("[last()][1]", 63),
		"//*" + repeat("[a or b", 16) + repeat("]", 16),
		"//*[" + repeat("not(", 14) + "b or (/)" + repeat(")", 14) + "]",
		"//*[" + repeat("not(", 15) + "b = 1 or a" + repeat(")", 15) + "]",
		"//*[" + repeat("(", 15) + "b" + repeat(")", 15) + "]",
	} {
		q := read(t, s)
		if path.Check(q) != api.OK {
			t.Fatal(s)
		}
		leads(t, x, s, w.answers(0, q))
	}
}

// A node's text is no longer than a text may be; what lies at the edge is whole characters.
func TestLongTexts(t *testing.T) {
	long := repeat("x", api.MaxText-1)
	for _, c := range []struct {
		f      []api.Tree
		length int
	}{
		{[]api.Tree{text(long), text("y")}, api.MaxText},
		{[]api.Tree{text(long), text("yz")}, api.MaxText},
		{[]api.Tree{text(long), text("é")}, api.MaxText - 1},
		{[]api.Tree{text(long), el("b", text("é")), text("y")}, api.MaxText - 1},
		{[]api.Tree{text(long[1:]), text("é")}, api.MaxText - 1},
		{[]api.Tree{text(long[2:]), text("\U00010000"), text("y")}, api.MaxText - 3},
		{[]api.Tree{text(long[3:]), text("\U00010000"), text("y")}, api.MaxText - 3},
		{[]api.Tree{text(repeat("é", api.MaxText/2)), text("y")}, api.MaxText / 2},
		{[]api.Tree{text(""), text(repeat("\u1000", api.MaxText/3)), text("yy")}, api.MaxText/3 + 1},
	} {
		d := plant(t, []api.Tree{el("a", c.f...), el("z")})
		x := index(t, d)
		leads(t, x, "//a[length(.) = "+strconv.Itoa(c.length)+"]", first(1))
		leads(t, x, "//z[length(/a) = "+strconv.Itoa(c.length)+"]", []api.Handle{d.Spans()[len(d.Spans())-1].Node})
		w := newWorld(d)
		q := read(t, "//node()[. = //node()/..]")
		all(t, x, 0, q, w.answers(0, q))
	}
}

// As many nodes as there can be are told by their texts.
func TestManyTexts(t *testing.T) {
	x := el("w")
	for i := range api.MaxNodes - 1 {
		x.Kids = append(x.Kids, text(strconv.Itoa(i%10)))
	}
	y := index(t, plant(t, []api.Tree{x}))
	const n = api.MaxNodes
	soon(t, y, "/w[count(//node()) = 4096]", 1, 1, 1)
	soon(t, y, "/w[sum(text()) = "+strconv.Itoa(409*45+0+1+2+3+4)+"]", 1, 1, 1)
	soon(t, y, "//text()[. = 9]", 409, 11, 4091)
	soon(t, y, "/w/text()[. = 9][409]", 1, 4091, 4091)
	soon(t, y, "//text()[not(. != following-sibling::text()[10])]", n-1-10+10, 2, n)
}

// Edits that close gaps: labels that lie as close as can be, and become others.
func TestClosedGaps(t *testing.T) {
	d := &label.Doc{}
	d.Insert(api.Last, 0, el("w", el("b")))
	for range api.MaxNodes - 2 {
		d.Insert(api.Before, hd(2, 1), el("a"))
	}
	x := index(t, d)
	const n = api.MaxNodes
	soon(t, x, "//a", n-2, 3, n)
	soon(t, x, "//b/preceding-sibling::*[1]", 1, n, n)
	soon(t, x, "//a[following-sibling::b]", n-2, 3, n)
	soon(t, x, "/w/*[last()]", 1, 2, 2)
}
