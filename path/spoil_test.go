package path_test

import (
	"strings"
	"testing"

	"espalier/api"
	"espalier/path"
)

// heldAgainstWords: Parse answers as the chapter's words do.
func heldAgainstWords(t *testing.T, s string) (api.Query, api.Errno) {
	t.Helper()
	q, at, e := path.Parse(s)
	want, wantAt, wantE := wantParse(s)
	if at != wantAt || e != wantE || !same(q, want) {
		t.Fatalf("Parse(%.300q): %s, %d, %d; want %s, %d, %d", s, show(q), at, e, show(want), wantAt, wantE)
	}
	if e == api.OK && path.Check(q) != api.OK {
		t.Fatalf("what Parse(%.300q) answers can't be", s)
	}
	return q, e
}

// P13.1: all short texts of pieces are read, or refused with the place, by the chapter's words.
func TestParseAllShort(t *testing.T) {
	var parts []string
	var all func(s, behind string, k int)
	all = func(s, behind string, k int) {
		heldAgainstWords(t, s+behind)
		if k > 0 {
			for _, p := range parts {
				all(s+p, behind, k-1)
			}
		}
	}
	parts = []string{"a", "or", " ", "/", "//", ".", "..", "*", "|", "::", ":", "child", "text", "not", "true", "(", ")", "[", "]", "1", "0", "'", "\"", "@", ",", "=", "<", "!", "é", "\x00", "-"}
	all("", "", 3)
	all("a[", "", 3)
	all("a[", "]", 3)
	all("a[not(", ")]", 2)
	all("a/self::", "", 2)
	parts = []string{"a", " or ", "/", "//", "..", "|", "self::", "text()", "(", ")", "[", "]", "1", "=", ","}
	all("", "", 4)
	all("a[", "]", 4)
	all("a[contains(", ")]", 3)
}

// P13.1: every byte, at every place of a query that has all that there is.
func TestParseEveryByte(t *testing.T) {
	const whole = "/a//self::b[1 = 'é']/.. | text()[not(@c) or d and (e|.) >= last()]//*[starts(\"f\", 20)]"
	if _, e := heldAgainstWords(t, whole); e != api.OK {
		t.Fatal(e)
	}
	for i := range len(whole) + 1 {
		heldAgainstWords(t, whole[:i])
		heldAgainstWords(t, whole[i:])
		for b := range 256 {
			c := string([]byte{byte(b)})
			heldAgainstWords(t, whole[:i]+c+whole[i:])
			heldAgainstWords(t, whole[:i]+c)
			if i < len(whole) {
				heldAgainstWords(t, whole[:i]+c+whole[i+1:])
				heldAgainstWords(t, whole[:i]+whole[i+1:])
			}
		}
	}
}

// P13.1: queries in any form come with their places.
func TestParseAnyForm(t *testing.T) {
	m := newMaker(1)
	forms := 0
	for range 4000 {
		s, want := write(m, m.query(1+m.IntN(40)))
		if len(s) > api.MaxQuery {
			continue
		}
		if q, at, e := path.Parse(s); e != api.OK || at != 0 || !same(q, want) {
			t.Fatalf("Parse(%q): %s, %d, %d; want %s", s, show(q), at, e, show(want))
		}
		heldAgainstWords(t, s)
		forms++
	}
	if forms < 3500 {
		t.Error(forms)
	}
}

// P13.1: queries in any form, spoiled.
func TestParseSpoiled(t *testing.T) {
	m := newMaker(2)
	pieces := []string{"", "", " ", "a", "or", "and", "/", "//", ".", "..", "*", "|", "::", "child::", "foo::", "text(", "not(", "true(", "foo(", "(", ")", "[", "]", "1", "01", "'", "\"", "@", ",", "=", "<=", "!", "é", "\x00", "'\x00'", long(33)}
	seen := map[api.Errno]int{}
	for range 30000 {
		s, _ := write(m, m.query(1+m.IntN(20)))
		for range 1 + m.IntN(2) {
			i := m.IntN(len(s) + 1)
			k := i + m.IntN(min(3, len(s)-i)+1)
			s = s[:i] + pick(m, pieces) + s[k:]
		}
		_, e := heldAgainstWords(t, s)
		seen[e]++
	}
	for _, e := range []api.Errno{api.OK, api.ErrForm, api.ErrShort, api.ErrMore, api.ErrName, api.ErrText, api.ErrStep, api.ErrOpen} {
		if seen[e] < 50 {
			t.Errorf("error %d: %d times", e, seen[e])
		}
	}
}

// P13.1: near the limits, spoiled.
func TestParseSpoiledAtLimits(t *testing.T) {
	m := newMaker(3)
	long := 0
	for range 4000 {
		q := m.query(20)
		n := 256 - parts(q) - 4 + m.IntN(8)
		s, _ := write(m, q)
		switch m.IntN(3) {
		case 0:
			s = strings.Repeat("/|", max(n, 0)) + s
		case 1:
			s = s + strings.Repeat("|/", max(n, 0))
		case 2:
			k := 10 + m.IntN(7)
			s = strings.Repeat("a[", k) + s + strings.Repeat("]", k)
		}
		if m.IntN(2) == 0 {
			i := m.IntN(len(s))
			s = s[:i] + pick(m, []string{"", "a", "/", "(", "[", "1=", "..", "'"}) + s[i+1:]
		}
		if _, e := heldAgainstWords(t, s); e == api.ErrLong {
			long++
		}
	}
	if long < 400 {
		t.Error(long)
	}
}

// What is answered is new memory, each time.
func TestParseMemory(t *testing.T) {
	m := newMaker(4)
	for range 300 {
		s, _ := write(m, m.query(30))
		a, _, _ := path.Parse(s)
		b, _, _ := path.Parse(s)
		apart(t, a, b)
	}
}
