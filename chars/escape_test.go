package chars_test

import (
	"math/rand"
	"regexp"
	"strconv"
	"strings"
	"testing"

	"espalier/api"
	"espalier/chars"
)

func escape(t *testing.T, s string, quote bool) string {
	t.Helper()
	out, at, e := chars.Escape(s, quote)
	if at != 0 || e != api.OK {
		t.Fatalf("Escape(%.40q, %v): %d, %d", s, quote, at, e)
	}
	return out
}

// P2.3: one character for one, by the document's list.
func TestEscapeOfEveryByte(t *testing.T) {
	plain := map[string]string{"&": "&amp;", "<": "&lt;", ">": "&gt;", "\r": "&#13;"}
	quoted := map[string]string{"&": "&amp;", "<": "&lt;", ">": "&gt;", "\r": "&#13;", "\"": "&quot;", "\t": "&#9;", "\n": "&#10;"}
	for r := range 0x800 {
		if !canBe(r) {
			continue
		}
		c := bytesOf(r)
		for quote, list := range map[bool]map[string]string{false: plain, true: quoted} {
			want := c
			if x, ok := list[c]; ok {
				want = x
			}
			if got := escape(t, c, quote); got != want {
				t.Errorf("Escape(%q, %v): %q", c, quote, got)
			}
			if got := escape(t, "x"+c+c+"é", quote); got != "x"+want+want+"é" {
				t.Errorf("Escape(%q, %v): %q", "x"+c+c+"é", quote, got)
			}
		}
	}
}

// P2.3
func TestEscapeEdges(t *testing.T) {
	for _, x := range []struct{ s, plain, quoted string }{
		{"", "", ""},
		{"a<b & \"c\"", "a&lt;b &amp; \"c\"", "a&lt;b &amp; &quot;c&quot;"},
		{"it's", "it's", "it's"},
		{"&amp;", "&amp;amp;", "&amp;amp;"},
		{"\t\n\r", "\t\n&#13;", "&#9;&#10;&#13;"},
		{"€\U0001f333", "€\U0001f333", "€\U0001f333"},
		{strings.Repeat("&", api.MaxText), strings.Repeat("&amp;", api.MaxText), strings.Repeat("&amp;", api.MaxText)},
	} {
		if got := escape(t, x.s, false); got != x.plain {
			t.Errorf("Escape(%.40q, false): %.40q", x.s, got)
		}
		if got := escape(t, x.s, true); got != x.quoted {
			t.Errorf("Escape(%.40q, true): %.40q", x.s, got)
		}
	}
	for _, x := range wrongTexts() {
		for _, quote := range []bool{false, true} {
			if s, at, e := chars.Escape(x.s, quote); s != "" || at != x.at || e != x.e {
				t.Errorf("Escape(%.40q, %v): %.40q, %d, %d; want %d, %d", x.s, quote, s, at, e, x.at, x.e)
			}
		}
	}
}

// P2.6
func TestThereAndBack(t *testing.T) {
	ref := regexp.MustCompile(`&(amp|lt|gt|quot|#13|#9|#10);`)
	texts := samples()
	src := rand.New(rand.NewSource(2))
	parts := []string{"&", "<", ">", "\"", "'", "\t", "\n", "\r", " ", "a", "#", "x", ";", "amp", "lt;", "é", "€", "\U0001f333"}
	for range 3000 {
		s := ""
		for range src.Intn(20) {
			s += parts[src.Intn(len(parts))]
		}
		texts = append(texts, s)
	}
	for _, s := range texts {
		for _, quote := range []bool{false, true} {
			out := escape(t, s, quote)
			if back, at, e := chars.Unescape(out); back != s || at != 0 || e != api.OK {
				t.Fatalf("Unescape(%.60q): %.60q, %d, %d", out, back, at, e)
			}
			bare := ref.ReplaceAllString(out, "")
			if strings.ContainsAny(bare, "<>&\r") || quote && strings.ContainsAny(bare, "\"\t\n") {
				t.Fatalf("Escape(%.60q, %v) is %.60q", s, quote, out)
			}
		}
	}
}

// told is what Unescape answers.
type told struct {
	s  string
	at int
	e  api.Errno
}

func unescape(s string) told {
	out, at, e := chars.Unescape(s)
	return told{out, at, e}
}

// P2.4: references that are whole.
func TestUnescapeReads(t *testing.T) {
	for s, want := range map[string]string{
		"": "", "a": "a", "&amp;": "&", "&lt;": "<", "&gt;": ">", "&quot;": "\"", "&apos;": "'",
		"&#x41;&#66;": "AB", "&#0000065;": "A", "&#x000041;": "A", "&#9;&#10;&#13;&#32;": "\t\n\r ", "&#x9;&#xA;&#xd;": "\t\n\r",
		"&#xe9;&#xE9;": "éé", "&#x20AC;": "€", "&#55295;&#57344;&#65533;&#65536;&#1114111;": "\ud7ff\ue000\ufffd\U00010000\U0010ffff", "&#x10ffff;&#x10FfFf;": "\U0010ffff\U0010ffff",
		"&amp;amp;": "&amp;", "&#38;lt;": "&lt;", "&amp;#65;": "&#65;", "<a b=\"c\">\r;#": "<a b=\"c\">\r;#", "x&lt;y&gt;é;": "x<y>é;", "#65;": "#65;",
	} {
		if got := unescape(s); got != (told{want, 0, api.OK}) {
			t.Errorf("Unescape(%q): %v; want %q", s, got, want)
		}
	}
}

// P2.4: what ends within a reference, what is none, what stands for a character that can't be.
func TestUnescapeRefuses(t *testing.T) {
	lists := map[api.Errno][]string{
		api.ErrShort: {"&", "&a", "&am", "&amp", "&ap", "&apo", "&apos", "&l", "&lt", "&g", "&gt", "&q", "&qu", "&quo", "&quot", "&#", "&#1", "&#1234567", "&#0000000", "&#9999999", "&#x", "&#x1", "&#xa", "&#xabcdef", "&#xFFFFFF"},
		api.ErrRef: {"&;", "&#;", "&#x;", "&foo;", "&AMP;", "&Amp;", "&amp:", "&amp ;", "& amp;", "&ampp;", "&am;", "&aps;", "&&", "&&amp;", "&lt&gt;", "&ltx", "&ap;", "&b", "&x41;", "&#X41;", "&#X", "&#xg", "&#g", "&#a;", "&#41a;", "&#-1;", "&#+1;", "&# 1;", "&#1 ;", "&#x 1;", "&#x-1;", "&#xx1;",
			"&#12345678;", "&#12345678", "&#00000065;", "&#00000000", "&#x1234567;", "&#x1234567", "&#x0000041;", "&#1&", "&#é", "&é", "&\x00", "&#\xff", "&#1\xff", "&#x1\x00", "&amp\x00", "&lt\xff;"},
		api.ErrText: {"&#0;", "&#x0;", "&#8;", "&#11;", "&#12;", "&#14;", "&#31;", "&#x1f;", "&#55296;", "&#xd800;", "&#57343;", "&#xDFFF;", "&#65534;", "&#xfffe;", "&#65535;", "&#xffff;", "&#1114112;", "&#x110000;", "&#9999999;", "&#xffffff;", "\x00", "\xff", "\x80", "\xc3", "\xc0\x80", "\xed\xa0\x80", "\xef\xbf\xbe", "\xe2\x82"},
	}
	for e, list := range lists {
		for _, s := range list {
			for _, ahead := range []string{"", "a", "é", "&amp;", "&#x41;\n"} {
				if got := unescape(ahead + s); got != (told{"", len(ahead), e}) {
					t.Errorf("Unescape(%q): %v; want %d at %d", ahead+s, got, e, len(ahead))
				}
			}
		}
	}
}

// P2.4: the first place wins, whatever is wrong behind it.
func TestUnescapeTellsTheFirstPlace(t *testing.T) {
	for s, want := range map[string]told{
		"a&foo;\x00":   {"", 1, api.ErrRef},
		"a\x00&foo;":   {"", 1, api.ErrText},
		"&#0;&":        {"", 0, api.ErrText},
		"b&#0;&":       {"", 1, api.ErrText},
		"&amp;&#;&":    {"", 5, api.ErrRef},
		"&amp;\xff&am": {"", 5, api.ErrText},
	} {
		if got := unescape(s); got != want {
			t.Errorf("Unescape(%q): %v; want %v", s, got, want)
		}
	}
}

// P2.4: how long it may become, at the edge and one beyond.
func TestUnescapeTooLong(t *testing.T) {
	full := strings.Repeat("a", api.MaxText)
	refs := strings.Repeat("&#00097;", api.MaxText)
	most := full[:api.MaxText-1]
	for _, x := range []struct {
		s    string
		want told
	}{
		{full, told{full, 0, api.OK}},
		{refs, told{full, 0, api.OK}},
		{most + "&amp;", told{most + "&", 0, api.OK}},
		{full + "b", told{"", api.MaxText, api.ErrLong}},
		{refs + "b", told{"", len(refs), api.ErrLong}},
		{refs + "&lt;", told{"", len(refs), api.ErrLong}},
		{full + "b\x00", told{"", api.MaxText, api.ErrLong}},
		{most + "é", told{"", api.MaxText - 1, api.ErrLong}},
		{most + "&#233;", told{"", api.MaxText - 1, api.ErrLong}},
		{most[:api.MaxText-2] + "é", told{most[:api.MaxText-2] + "é", 0, api.OK}},
		{most[:api.MaxText-3] + "&#x10000;", told{"", api.MaxText - 3, api.ErrLong}},
		{most[:api.MaxText-4] + "&#x10000;", told{most[:api.MaxText-4] + "\U00010000", 0, api.OK}},
		{most[:api.MaxText-2] + "€", told{"", api.MaxText - 2, api.ErrLong}},
		{full + "&", told{"", api.MaxText, api.ErrShort}},
		{full + "&b", told{"", api.MaxText, api.ErrRef}},
		{full + "&#0;", told{"", api.MaxText, api.ErrText}},
		{full + "\x00", told{"", api.MaxText, api.ErrText}},
		{full + strings.Repeat("&#", 1<<20), told{"", api.MaxText, api.ErrRef}},
	} {
		if got := unescape(x.s); got != x.want {
			t.Errorf("Unescape(%.20q.., %d bytes): %.20q, %d, %d; want %d, %d", x.s, len(x.s), got.s, got.at, got.e, x.want.at, x.want.e)
		}
	}
}

var (
	whole = regexp.MustCompile(`^&(amp|lt|gt|quot|apos|#[0-9]{1,7}|#x[0-9a-fA-F]{1,6});`)
	begun = regexp.MustCompile(`^&(a|am|amp|l|lt|g|gt|q|qu|quo|quot|ap|apo|apos|#[0-9]{0,7}|#x[0-9a-fA-F]{0,6})?$`)
)

// model is Unescape for short texts of ASCII, by patterns.
func model(s string) told {
	out := ""
	for at := 0; at < len(s); {
		if s[at] != '&' {
			if !canBe(int(s[at])) {
				return told{"", at, api.ErrText}
			}
			out += s[at : at+1]
			at++
			continue
		}
		ref := whole.FindString(s[at:])
		if begun.MatchString(s[at:]) {
			return told{"", at, api.ErrShort}
		}
		if ref == "" {
			return told{"", at, api.ErrRef}
		}
		r := means(ref)
		if !canBe(r) {
			return told{"", at, api.ErrText}
		}
		out += bytesOf(r)
		at += len(ref)
	}
	return told{out, 0, api.OK}
}

func means(ref string) int {
	by := map[string]int{"&amp;": 38, "&lt;": 60, "&gt;": 62, "&quot;": 34, "&apos;": 39}
	if r, ok := by[ref]; ok {
		return r
	}
	base, digits := 10, ref[2:len(ref)-1]
	if digits[0] == 'x' {
		base, digits = 16, digits[1:]
	}
	r, _ := strconv.ParseInt(digits, base, 64)
	return int(r)
}

// P2.4: against the patterns, texts of parts that make references, nearly make them, or break off.
func TestUnescapeAgainstPatterns(t *testing.T) {
	parts := []string{"&", "#", "x", ";", "a", "m", "p", "am", "mp", "apos", "quot", "lt", "gt", "&amp;", "&#", "&#x", "0", "9", "41", "D8", "1234567", "X", "\x00", " "}
	src := rand.New(rand.NewSource(4))
	for range 200000 {
		s := ""
		for range src.Intn(8) {
			s += parts[src.Intn(len(parts))]
		}
		if got, want := unescape(s), model(s); got != want {
			t.Fatalf("Unescape(%q): %v; want %v", s, got, want)
		}
	}
	for _, ref := range []string{"&amp;", "&lt;", "&gt;", "&quot;", "&apos;", "&#1234567;", "&#x12aBcd;", "&#65;"} {
		for k := range len(ref) + 1 {
			for b := range 128 {
				s := ref[:k] + string(rune(b))
				if got, want := unescape(s), model(s); got != want {
					t.Fatalf("Unescape(%q): %v; want %v", s, got, want)
				}
			}
		}
	}
}
