package path_test

import (
	"strings"
	"testing"

	"espalier/api"
	"espalier/path"
)

// P13.1: how many bytes.
func TestParseBytes(t *testing.T) {
	blank := strings.Repeat(" ", api.MaxQuery-1)
	reads(t, blank+"a", query(rel(api.MaxQuery-1, child(api.MaxQuery-1, "a"))))
	reads(t, "a"+blank, query(rel(0, child(0, "a"))))
	refuses(t, blank+" a", 0, api.ErrLong)
	refuses(t, "a "+blank, 0, api.ErrLong)
	refuses(t, "\x00"+blank+" ", 0, api.ErrLong)
	refuses(t, "\x00"+blank, 0, api.ErrForm)
	refuses(t, blank+" ", api.MaxQuery, api.ErrShort)
	refuses(t, strings.Repeat("a/", 1<<20), 0, api.ErrLong)
	s := long(api.MaxQuery - 5)
	reads(t, "a['"+s+"']", holding(text(2, s)))
	for _, c := range []string{"/", "(", "[", "a[", ".", "*", "a|", "a[(", "a[not(", "1", "a", "'", "a['", "a[1][", "text()", "a[b=", "a[b or ", "\x00", "é"} {
		s := strings.Repeat(c, api.MaxQuery/len(c))
		heldAgainstWords(t, s)
		heldAgainstWords(t, "a["+s[:len(s)-2])
	}
}

// P13.1: paths, steps and expressions that are begun, up to 256 of them.
func TestParseCounted(t *testing.T) {
	for _, x := range []struct {
		ahead, piece, between, behind string
		first, each                   int // how many so many pieces begin: first and so many times each
	}{
		{"", "a", "|", "", 0, 2},   // a path, a step
		{"", "/", "|", "", 0, 1},   // a path
		{"", "/.", "|", "", 0, 2},  // a path, a step
		{"", "//a", "|", "", 0, 3}, // a path, two steps
		{"a", "/a", "", "", 2, 1},  // a step
		{"a", "//a", "", "", 2, 2}, // two steps
		{"a", "/..", "", "", 2, 1}, // a step
		{"a", "/self::text()", "", "", 2, 1},
		{"a", "[1]", "", "", 2, 1},      // a number
		{"a", "['']", "", "", 2, 1},     // a text
		{"a", "[@b]", "", "", 2, 1},     // an attribute
		{"a", "[/]", "", "", 2, 2},      // a query, a path
		{"a", "[b]", "", "", 2, 3},      // a query, a path, a step
		{"a", "[//b]", "", "", 2, 4},    // a query, a path, two steps
		{"a", "[last()]", "", "", 2, 1}, // a call
		{"a", "[not(1)]", "", "", 2, 2}, // a call and its part
		{"a", "[1=2]", "", "", 2, 3},    // a number, a sign, a number
		{"a", "[((1))]", "", "", 2, 1},  // brackets are nothing
		{"a[", "1", " or ", "]", 1, 2},  // numbers and what is between them
		{"a[", "1", " and ", "]", 1, 2},
		{"a[", "1!=@b", " or ", "]", 1, 4},
		{"a[", "b", " and ", "]", 1, 4},
		{"a[count(", "b", " | ", ")]", 4, 2},
		{"a[starts(1,", "2", " and ", ")]", 3, 2},
	} {
		n := (256 - x.first) / x.each
		for k := n - 1; k <= n+2; k++ {
			s := x.ahead + x.piece + strings.Repeat(x.between+x.piece, k-1) + x.behind
			q, e := heldAgainstWords(t, s)
			switch {
			case k > n && e != api.ErrLong, k <= n && e != api.OK, k <= n && parts(q) != x.first+k*x.each:
				t.Errorf("%.40q, %d times: %d parts, %d", s, k, parts(q), e)
			}
		}
	}
	// One behind the other, word by word.
	steps := "a" + strings.Repeat("/a", 254)
	reads(t, steps, query(rel(0, manySteps(255)...)))
	refuses(t, steps+"/a", 510, api.ErrLong)
	refuses(t, steps+"//a", 509, api.ErrLong)
	refuses(t, steps+"|a", 510, api.ErrLong)
	refuses(t, steps+"|/", 510, api.ErrLong)
	refuses(t, steps+" [ 1 ]", 512, api.ErrLong)
	refuses(t, steps+"[b]", 510, api.ErrLong)
	refuses(t, steps[2:]+"[/]", 508, api.ErrLong)
	refuses(t, steps[2:]+"[1 or 2]", 510, api.ErrLong)
	refuses(t, steps[4:]+"[1 or 2]", 511, api.ErrLong)
	refuses(t, steps[4:]+"[1 <= 2]", 511, api.ErrLong)
	refuses(t, steps[2:]+"[not(true())]", 512, api.ErrLong)
	refuses(t, steps[2:]+"|b", 508, api.ErrLong)
	refuses(t, steps[4:]+"|//b", 508, api.ErrLong)
	refuses(t, steps[2:]+"|//b", 508, api.ErrLong)
	if _, _, e := path.Parse(steps[6:] + "|//b"); e != api.OK {
		t.Error(e)
	}
}

func manySteps(n int) []api.Step {
	var l []api.Step
	for i := range n {
		l = append(l, child(2*i, "a"))
	}
	return l
}

// parts is how many paths, steps and expressions a query has.
func parts(q api.Query) int {
	n := len(q.Paths)
	for _, p := range q.Paths {
		n += len(p.Steps)
		for _, s := range p.Steps {
			n += exprParts(s.Preds)
		}
	}
	return n
}

func exprParts(l []api.Expr) int {
	n := len(l)
	for _, e := range l {
		n += exprParts(e.Parts) + parts(e.Query)
	}
	return n
}

// P13.1: as soon as it is begun it is one too many, whatever is wrong with the rest of it; what begins nothing is none.
func TestParseCountedFirst(t *testing.T) {
	full := "a" + strings.Repeat("/a", 254)
	for _, x := range []struct {
		s  string
		at int
		e  api.Errno
	}{
		{"/foo::a", 1, api.ErrLong}, {"/foo()", 1, api.ErrLong}, {"/" + long(33), 1, api.ErrLong}, {"//", 0, api.ErrLong}, {"///", 0, api.ErrLong}, {"//@", 0, api.ErrLong}, {"|foo::a", 1, api.ErrLong}, {"[01]", 1, api.ErrLong}, {"['x", 1, api.ErrLong}, {"['\x00']", 1, api.ErrLong}, {"[@1]", 1, api.ErrLong}, {"[@", 1, api.ErrLong}, {"[not()]", 1, api.ErrLong}, {"[true(", 1, api.ErrLong}, {"[foo(", 1, api.ErrLong}, {"[//", 1, api.ErrLong},
		{"/", 1, api.ErrShort}, {"/@", 1, api.ErrForm}, {"/ /", 2, api.ErrForm}, {"|", 1, api.ErrShort}, {"|@", 1, api.ErrForm}, {"[", 1, api.ErrShort}, {"[]", 1, api.ErrForm}, {"[(", 2, api.ErrShort}, {"[-", 1, api.ErrForm}, {" b", 1, api.ErrMore}, {"]", 0, api.ErrMore},
	} {
		refuses(t, full+x.s, len(full)+x.at, x.e)
		heldAgainstWords(t, full+x.s)
		heldAgainstWords(t, full[2:]+x.s)
		heldAgainstWords(t, full[4:]+x.s)
	}
	one := full[2:] + "[1"
	for _, s := range []string{" or", " or ", " or]", " or 2]", " and", "=", "!=@", " <= ]", "<"} {
		place := len(one) + len(s) - len(strings.TrimLeft(s, " "))
		refuses(t, one+s, place, api.ErrLong)
	}
	refuses(t, one+" ors", len(one)+1, api.ErrForm)
	refuses(t, one+"!", len(one), api.ErrForm)
	refuses(t, one, len(one)-2, api.ErrOpen)
}

// P13.1: brackets, up to 16 in one another.
func TestParseNest(t *testing.T) {
	for _, x := range []struct{ open, close string }{{"a[", "]"}, {"(", ")"}, {"not(", ")"}, {"contains(1,", ")"}, {"(1=", ")"}, {"1 or (", ")"}, {"a[2][", "]"}} {
		ahead, close := "a[", "]"
		at := len(ahead)
		fits := ahead + strings.Repeat(x.open, 15) + "text()" + strings.Repeat(x.close, 15) + close
		if q, e := heldAgainstWords(t, fits); e != api.OK || len(q.Paths) != 1 {
			t.Errorf("%s: %d", fits, e)
		}
		deep := ahead + strings.Repeat(x.open, 16) + "text()" + strings.Repeat(x.close, 16) + close
		at += 15*len(x.open) + strings.IndexAny(x.open, "[(")
		refuses(t, deep, at, api.ErrLong)
		refuses(t, deep[:at+1], at, api.ErrLong)
		heldAgainstWords(t, deep)
		heldAgainstWords(t, ahead+strings.Repeat(x.open, 200))
	}
	in := strings.Repeat("a[", 16)
	out := strings.Repeat("]", 16)
	for _, x := range []struct {
		s  string
		at int
	}{{"true()", 4}, {"(1)", 0}, {"a[1]", 1}, {"not (", 4}, {"text()[", 6}, {"node ( ) [1]", 9}, {"1 or (", 5}} {
		refuses(t, in+x.s+out, 32+x.at, api.ErrLong)
	}
	for _, s := range []string{"text()", "node ( )/text()", "1", "'('", "a/b | c", "1 = 2 or 3 and text()"} {
		if _, e := heldAgainstWords(t, in+s+out); e != api.OK {
			t.Error(s, e)
		}
	}
	refuses(t, in+"text("+out, 37, api.ErrForm)
	// Those that are closed are around nothing any more.
	if _, e := heldAgainstWords(t, "a"+strings.Repeat("[((1))]", 100)+"[not(not(1))]"); e != api.OK {
		t.Error(e)
	}
}
