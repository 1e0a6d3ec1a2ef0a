package chars_test

import (
	"math"
	"strings"
	"testing"

	"espalier/api"
	"espalier/chars"
)

// canBe is the document's list of characters that can be, written out once more.
func canBe(r int) bool {
	ranges := [][2]int{{9, 9}, {10, 10}, {13, 13}, {32, 55295}, {57344, 65533}, {65536, 1114111}}
	for _, x := range ranges {
		if x[0] <= r && r <= x[1] {
			return true
		}
	}
	return false
}

// bytesOf is a number's bytes, by the document's rule, whether or not such a character can be.
func bytesOf(r int) string {
	low := func(shift int) byte { return byte(0x80 + r>>shift&63) }
	switch {
	case r < 128:
		return string([]byte{byte(r)})
	case r < 2048:
		return string([]byte{byte(0xc0 + r>>6), low(0)})
	case r < 65536:
		return string([]byte{byte(0xe0 + r>>12), low(6), low(0)})
	}
	return string([]byte{byte(0xf0 + r>>18), low(12), low(6), low(0)})
}

// forms is all texts of one character that can be, with its number.
func forms() map[string]int {
	all := map[string]int{}
	for r := 0; r <= 0x10ffff; r++ {
		if canBe(r) {
			all[bytesOf(r)] = r
		}
	}
	return all
}

// samples: texts that can be, of characters of all sizes, with all that is escaped.
func samples() []string {
	return []string{
		"", "a", " ", "é", "\t\n\r ", "&", "<>&\"'", "a<b & \"c\"\r", "&amp;", "&#13;", "]]>", "\u007f\u0080\u07ff\u0800\ud7ff\ue000\ufffd\U00010000\U0010ffff",
		"  a \n b ", "aéb", strings.Repeat("€", 5461), strings.Repeat("&", api.MaxText), strings.Repeat("\t", api.MaxText), strings.Repeat("\U0001f333", api.MaxText/4),
	}
}

// wrongTexts: texts that can't be, with Text's place and error.
func wrongTexts() []struct {
	s  string
	at int
	e  api.Errno
} {
	return []struct {
		s  string
		at int
		e  api.Errno
	}{
		{"\x00", 0, api.ErrText}, {"a\x00", 1, api.ErrText}, {"é\x1f", 2, api.ErrText}, {"ab\x08", 2, api.ErrText}, {"\x0b", 0, api.ErrText}, {"\x0c", 0, api.ErrText}, {"\x0e", 0, api.ErrText},
		{"\xc0\x80", 0, api.ErrText}, {"\xc1\xbf", 0, api.ErrText}, {"\xe0\x9f\xbf", 0, api.ErrText}, {"\xf0\x8f\xbf\xbf", 0, api.ErrText},
		{"\xed\xa0\x80", 0, api.ErrText}, {"\xed\xbf\xbf", 0, api.ErrText}, {"a\xef\xbf\xbe", 1, api.ErrText}, {"\xef\xbf\xbf", 0, api.ErrText},
		{"\xf4\x90\x80\x80", 0, api.ErrText}, {"\xf7\xbf\xbf\xbf", 0, api.ErrText}, {"\xf8\x88\x80\x80\x80", 0, api.ErrText}, {"\xff", 0, api.ErrText}, {"\xfe", 0, api.ErrText},
		{"\x80", 0, api.ErrText}, {"a\xbf", 1, api.ErrText}, {"\xc3", 0, api.ErrText}, {"ab\xe2\x82", 2, api.ErrText}, {"\xf0\x9f\x8c", 0, api.ErrText},
		{"\xc3a", 0, api.ErrText}, {"\xe2\x82a", 0, api.ErrText}, {"\xe2a\x82", 0, api.ErrText}, {"\xf0\x9f\x8c\xc0", 0, api.ErrText}, {"\xc3\xc3", 0, api.ErrText},
		{"\ufffd\xff", 3, api.ErrText}, {"\xff\x00", 0, api.ErrText}, {"aé€\U00010000\x80b", 10, api.ErrText},
		{strings.Repeat("a", api.MaxText-1) + "\x00", api.MaxText - 1, api.ErrText},
		{strings.Repeat("a", api.MaxText-1) + "é", 0, api.ErrLong},
		{strings.Repeat("a", api.MaxText+1), 0, api.ErrLong},
		{"\x00" + strings.Repeat("a", api.MaxText), 0, api.ErrLong},
		{strings.Repeat("a", 7) + "\x00" + strings.Repeat("a", api.MaxText), 0, api.ErrLong},
	}
}

// P2.1
func TestCharIsAsListed(t *testing.T) {
	for r := -70000; r < 0x120000; r++ {
		if got := chars.Char(r); got != canBe(r) {
			t.Fatalf("Char(%d): %v", r, got)
		}
	}
	for _, r := range []int{math.MinInt, math.MinInt32, -1 << 32, 1<<32 + 'a', math.MaxInt32, math.MaxInt} {
		if chars.Char(r) {
			t.Errorf("Char(%d)", r)
		}
	}
}

// P2.1
func TestFirstOfEveryCharacter(t *testing.T) {
	for r := 0; r < 0x200000; r++ {
		wantR, wantN, wantE := 0, 0, api.ErrText
		s := bytesOf(r)
		if canBe(r) {
			wantR, wantN, wantE = r, len(s), api.OK
		}
		for _, behind := range []string{"", "a", "\x80", "é\xff"} {
			got, n, e := chars.First(s + behind)
			if got != wantR || n != wantN || e != wantE {
				t.Fatalf("First(%q): %d, %d, %d; want %d, %d, %d", s+behind, got, n, e, wantR, wantN, wantE)
			}
		}
	}
}

// P2.1
func TestFirstRefuses(t *testing.T) {
	if r, n, e := chars.First(""); r != 0 || n != 0 || e != api.ErrShort {
		t.Errorf("First of nothing: %d, %d, %d", r, n, e)
	}
	for _, x := range wrongTexts() {
		if x.e != api.ErrText {
			continue
		}
		if r, n, e := chars.First(x.s[x.at:]); r != 0 || n != 0 || e != api.ErrText {
			t.Errorf("First(%q): %d, %d, %d", x.s[x.at:], r, n, e)
		}
	}
	if r, n, e := chars.First(strings.Repeat("é", api.MaxText)); r != 233 || n != 2 || e != api.OK {
		t.Errorf("First of a text that is too long: %d, %d, %d", r, n, e)
	}
}

// P2.7: of all texts of up to two bytes, and of longer ones around all edges, just the forms of the document's rule begin with a character.
func TestOneForm(t *testing.T) {
	all := forms()
	check := func(b []byte) {
		s := string(b)
		r, n, e := chars.First(s)
		want, wantN, wantE := 0, 0, api.ErrText
		for k := 1; k <= len(s); k++ {
			if x, ok := all[s[:k]]; ok {
				want, wantN, wantE = x, k, api.OK
			}
		}
		if r != want || n != wantN || e != wantE {
			t.Fatalf("First(%q): %d, %d, %d; want %d, %d, %d", s, r, n, e, want, wantN, wantE)
		}
	}
	edges := []byte{0x00, 0x41, 0x7f, 0x80, 0x81, 0x8f, 0x90, 0x9f, 0xa0, 0xbd, 0xbe, 0xbf, 0xc0, 0xc3, 0xe0, 0xff}
	for a := range 256 {
		check([]byte{byte(a)})
		for b := range 256 {
			check([]byte{byte(a), byte(b)})
			for _, c := range edges {
				check([]byte{byte(a), byte(b), c})
				if a < 0xe0 {
					continue // no such byte asks for a fourth one
				}
				for _, d := range edges {
					check([]byte{byte(a), byte(b), c, d})
				}
			}
		}
	}
}

// P2.7: First, again and again, tells the characters, and they alone make the text.
func TestFirstAgainAndAgain(t *testing.T) {
	for _, s := range samples() {
		made := ""
		count := 0
		for rest := s; rest != ""; count++ {
			r, n, e := chars.First(rest)
			if e != api.OK || n < 1 || n > len(rest) {
				t.Fatalf("First(%q): %d, %d, %d", rest, r, n, e)
			}
			made += bytesOf(r)
			rest = rest[n:]
		}
		if made != s {
			t.Errorf("%q: its characters make %q", s, made)
		}
		if n, _ := chars.Len(s); n != count {
			t.Errorf("Len(%q): %d, want %d", s, n, count)
		}
	}
}

// P2.2
func TestText(t *testing.T) {
	for _, s := range samples() {
		if at, e := chars.Text(s); at != 0 || e != api.OK {
			t.Errorf("Text(%q): %d, %d", s, at, e)
		}
	}
	for _, x := range wrongTexts() {
		if at, e := chars.Text(x.s); at != x.at || e != x.e {
			t.Errorf("Text(%.40q): %d, %d; want %d, %d", x.s, at, e, x.at, x.e)
		}
	}
	if at, e := chars.Text(strings.Repeat("a", api.MaxText)); at != 0 || e != api.OK {
		t.Errorf("the longest text: %d, %d", at, e)
	}
}

// P2.2: the first place, by a search of its own.
func TestTextTellsTheFirstPlace(t *testing.T) {
	parts := []string{"a", "é", "€", "\U0001f333", "\x00", "\xc3", "\xe2\x82", "\x80", "\xff", "\ufffd"}
	var all func(s string, k int)
	all = func(s string, k int) {
		want, wantE := 0, api.OK
		for rest := s; rest != ""; {
			_, n, e := chars.First(rest)
			if e != api.OK {
				want, wantE = len(s)-len(rest), api.ErrText
				break
			}
			rest = rest[n:]
		}
		if at, e := chars.Text(s); at != want || e != wantE {
			t.Fatalf("Text(%q): %d, %d; want %d, %d", s, at, e, want, wantE)
		}
		if k > 0 {
			for _, p := range parts {
				all(s+p, k-1)
			}
		}
	}
	all("", 4)
}

// P2.2
func TestNameByEveryByte(t *testing.T) {
	const firsts = "abcdefghijklmnopqrstuvwxyzABCDEFGHIJKLMNOPQRSTUVWXYZ_"
	const others = firsts + "0123456789-."
	for b := range 256 {
		c := string([]byte{byte(b)})
		first, other := strings.Contains(firsts, c), strings.Contains(others, c)
		if chars.Name(c) != first || chars.Name(c+"a") != first || chars.Name(c+"-") != first {
			t.Errorf("a name that begins with %q: %v", c, !first)
		}
		for _, s := range []string{"a" + c, "_" + c + "9", strings.Repeat("x", api.MaxName-1) + c} {
			if chars.Name(s) != other {
				t.Errorf("Name(%q): %v", s, !other)
			}
		}
	}
}

// P2.2
func TestNameEdges(t *testing.T) {
	for _, s := range []string{"a", "_", "Z", "a-b.c", "a.", "a-", "_1", "xml", strings.Repeat("a", api.MaxName)} {
		if !chars.Name(s) {
			t.Errorf("Name(%q): false", s)
		}
	}
	for _, s := range []string{"", "1a", "-a", ".a", "a:b", "a b", " a", "a ", "é", "aé", "a\x00", "a\xff", strings.Repeat("a", api.MaxName+1), strings.Repeat("a", 1<<20)} {
		if chars.Name(s) {
			t.Errorf("Name(%.40q): true", s)
		}
	}
}

// P2.2
func TestBlank(t *testing.T) {
	for _, s := range []string{"", " ", "\t", "\n", "\r", " \t\n\r ", strings.Repeat(" ", api.MaxText+1)} {
		if !chars.Blank(s) {
			t.Errorf("Blank(%.40q): false", s)
		}
	}
	for b := range 256 {
		want := b == 9 || b == 10 || b == 13 || b == 32
		c := string([]byte{byte(b)})
		for _, s := range []string{c, " " + c, c + "\t", "\n" + c + "\r"} {
			if chars.Blank(s) != want {
				t.Errorf("Blank(%q): %v", s, !want)
			}
		}
	}
	for _, s := range []string{"\u00a0", "\u0085", "\u2003", "\u3000", "  a", "a  "} {
		if chars.Blank(s) {
			t.Errorf("Blank(%q): true", s)
		}
	}
}
