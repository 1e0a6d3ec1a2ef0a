package naive_test

import (
	"slices"
	"strconv"
	"strings"
	"testing"
	"time"

	"espalier/api"
	"espalier/naive"
	"espalier/tree"
)

// soon: the text leads to so many nodes, the first and the last of which are these (of the first generation), within a time that leaves room for slow machines, but not for asking each place of each place of each place.
func soon(t *testing.T, d *tree.Doc, s string, n int, from, to uint64) {
	t.Helper()
	begin := time.Now()
	l, at, e := naive.Ask(d, s)
	if took := time.Since(begin); took > 2*time.Minute {
		t.Errorf("%.80s took %v", s, took)
	}
	if e != api.OK || at != 0 || len(l) != n || n > 0 && (l[0] != hd(from, 1) || l[n-1] != hd(to, 1)) {
		t.Errorf("%.80s: %d from %x on, %d, %d; want %d from %d to %d", s, len(l), l[:min(1, len(l))], at, e, n, from, to)
	}
}

// wide is a document of one element with all others in it, so many in all.
func wide(t *testing.T, n int) *tree.Doc {
	x := el("w")
	for range n - 1 {
		x.Kids = append(x.Kids, el("a"))
	}
	return plant(t, []api.Tree{x})
}

// tall is a document of so many chains as deep as can be.
func tall(t *testing.T, chains int) *tree.Doc {
	x := el("a")
	for range api.MaxDepth - 1 {
		x = el("a", x)
	}
	return plant(t, slices.Repeat([]api.Tree{x}, chains))
}

// nested is a query with a predicate in a predicate, as deep as can be.
func nested(s string) string {
	return "//*" + repeat("["+s, api.MaxNest) + repeat("]", api.MaxNest)
}

// Every call ends, also of a full document that is gone through from each of its nodes.
func TestWide(t *testing.T) {
	t.Parallel()
	const n = api.MaxNodes
	d := wide(t, n)
	soon(t, d, "//*", n, 1, n)
	soon(t, d, "/w/a[2]", 1, 3, 3)
	soon(t, d, "//a[last()]", 1, n, n)
	soon(t, d, "//a[position() = last()]", 1, n, n)
	soon(t, d, "//*[count(//a) = "+strconv.Itoa(n-1)+"]", n, 1, n)
	soon(t, d, "//*"+repeat("/following::*/preceding::*", 100), n-2, 2, n-1)
}

// Predicates in one another, as deep as they can be, by place and by turn: each asks all nodes from each.
func TestNested(t *testing.T) {
	t.Parallel()
	const n = 300
	d := wide(t, n)
	soon(t, d, nested("following::*"), n-1-16, 2, n-16)
	soon(t, d, nested("preceding-sibling::*"), n-1-16, 18, n)
	soon(t, d, nested("..//*"), n, 1, n)
	soon(t, d, "//*"+repeat("[count(following::*", 8)+repeat(") > 0]", 8), n-1-8, 2, n-8)
	soon(t, d, "//*"+repeat("[position() > count(preceding::*", 8)+repeat(")]", 8), n, 1, n)
	soon(t, d, "//*[count(following::*/following::*[position() > 1]) = 5]", 1, n-7, n-7)
	soon(t, d, "//*[following::*/following::*[position() = last()]]", n-1-2, 2, n-2)
	soon(t, d, "//a[following::* = preceding::*]", n-3, 3, n-1)
	soon(t, d, "//*/preceding::*[last()]", 1, 2, 2)
}

// So it does in documents as deep as they can be.
func TestTall(t *testing.T) {
	t.Parallel()
	d := tall(t, api.MaxNodes/api.MaxDepth)
	const n = api.MaxNodes
	soon(t, d, "//*", n, 1, n)
	soon(t, d, "//a[2]", 1, 65, 65)
	soon(t, d, nested(".//*"), n/64*48, 1, n-16)
	soon(t, d, nested("ancestor::*"), n/64*48, 17, n)
	soon(t, d, "//*"+repeat("[count(.//*", 8)+repeat(") > 0]", 8), n/64*56, 1, n-8)
	soon(t, d, "/*"+repeat("/*", 63), n/64, 64, n)
	soon(t, d, "/*"+repeat("/*", 64), 0, 0, 0)
	soon(t, d, "//*[count(ancestor::*) = 63]", n/64, 64, n)
	soon(t, d, "//*/ancestor::*[3]", n/64*61, 1, n-3)
	soon(t, d, "//*/descendant::*[last()]", n/64, 64, n)
	soon(t, d, "//*"+repeat("/..//*", 60), n, 1, n)
}

// Match of the deepest nodes of a full document, from all places around them.
func TestMatchFull(t *testing.T) {
	d := tall(t, api.MaxNodes/api.MaxDepth)
	const n = api.MaxNodes
	for s, want := range map[string]bool{"a": true, "//a": true, "b": false, "//a//a": true, "/a": false, ".": true, "a[2]": false, "a" + repeat("/a", 63): true, "a" + repeat("/a", 64): false, "*[count(ancestor::*) = 63]": true, "/a[64]//a": true, "/a[63]//a": false} {
		if is, e := naive.Match(d, hd(n, 1), read(t, s)); is != want || e != api.OK {
			t.Errorf("Match(%.40s): %t, %d", s, is, e)
		}
	}
}

// Queries as great as they can be.
func TestGreatest(t *testing.T) {
	d := ways(t)
	w := newWorld(d)
	for _, s := range []string{
		"/" + strings.TrimSuffix(repeat("a/..//", 84), "//"),
		"a" + repeat(" | /", 125) + " | //a/b",
		"//*[" + strings.TrimSuffix(repeat("(/) or ", 84), " or ") + "]",
		"//*[" + strings.TrimSuffix(repeat("1 or ", 120), " or ") + "]",
		"//*" + repeat("[true()]", 126),
		"//*" + repeat("[last()][1]", 63),
		"//*" + repeat("[a or b", 16) + repeat("]", 16),
		"//*[" + repeat("not(", 14) + "b or (/)" + repeat(")", 14) + "]",
		"//*[" + repeat("not(", 15) + "b = 1 or a" + repeat(")", 15) + "]",
		"//*[" + repeat("(", 15) + "b" + repeat(")", 15) + "]",
	} {
		leads(t, d, s, w.answers(0, read(t, s)))
	}
}

// A node's text is no longer than a text may be; what lies at the edge is whole characters.
func TestLongTexts(t *testing.T) {
	long := repeat("x", api.MaxText-1)
	for _, c := range []struct {
		f      []api.Tree
		length int
	}{
		{[]api.Tree{text(long), text("y")}, api.MaxText},
		{[]api.Tree{text(long), text("yz")}, api.MaxText},
		{[]api.Tree{text(long), text("é")}, api.MaxText - 1},
		{[]api.Tree{text(long), el("b", text("é")), text("y")}, api.MaxText - 1},
		{[]api.Tree{text(long[1:]), text("é")}, api.MaxText - 1},
		{[]api.Tree{text(repeat("é", api.MaxText/2)), text("y")}, api.MaxText / 2},
	} {
		d := plant(t, []api.Tree{el("a", c.f...), el("z")})
		leads(t, d, "//a[length(.) = "+strconv.Itoa(c.length)+"]", first(1))
		if v, e := naive.Value(d, 0, expr(t, "length(a)")); !same(v, api.Value{Kind: api.VNumber, Num: int64(c.length)}) || e != api.OK {
			t.Error(v, e)
		}
	}
}

// As many nodes as there can be are told by their texts.
func TestManyTexts(t *testing.T) {
	x := el("w")
	for i := range api.MaxNodes - 1 {
		x.Kids = append(x.Kids, text(strconv.Itoa(i%10)))
	}
	d := plant(t, []api.Tree{x})
	soon(t, d, "/w[count(//node()) = 4096]", 1, 1, 1)
	soon(t, d, "/w[sum(text()) = "+strconv.Itoa(409*45+0+1+2+3+4)+"]", 1, 1, 1)
	soon(t, d, "//text()[. = 9]", 409, 11, 4091)
	soon(t, d, "/w/text()[. = 9][409]", 1, 4091, 4091)
	v, e := naive.Value(d, hd(1, 1), expr(t, "text()"))
	if e != api.OK || len(v.Texts) != api.MaxNodes-1 || v.Texts[1] != "1" || v.Texts[4094] != "4" {
		t.Error(len(v.Texts), e)
	}
}
