package chars

import (
	"strings"
	"unicode/utf8"

	"espalier/api"
)

// Escape writes a text so that it can stand in markup (quote: between quotes).
func Escape(s string, quote bool) (string, int, api.Errno) {
	if at, e := Text(s); e != api.OK {
		return "", at, e
	}
	var out strings.Builder
	for _, b := range []byte(s) {
		if ref := escaped(b, quote); ref != "" {
			out.WriteString(ref)
		} else {
			out.WriteByte(b)
		}
	}
	return out.String(), 0, api.OK
}

// escaped is the reference that stands for a character; empty: it stands for itself.
func escaped(b byte, quote bool) string {
	switch b {
	case '&':
		return "&amp;"
	case '<':
		return "&lt;"
	case '>':
		return "&gt;"
	case '\r':
		return "&#13;"
	}
	if !quote {
		return ""
	}
	switch b {
	case '"':
		return "&quot;"
	case '\t':
		return "&#9;"
	case '\n':
		return "&#10;"
	}
	return ""
}

// Unescape reads a text that may have references in it.
func Unescape(s string) (string, int, api.Errno) {
	var out []byte
	for at := 0; at < len(s); {
		r, n, e := next(s[at:])
		if e == api.OK && len(out)+size(r) > api.MaxText {
			e = api.ErrLong
		}
		if e != api.OK {
			return "", at, e
		}
		out = utf8.AppendRune(out, rune(r))
		at += n
	}
	return string(out), 0, api.OK
}

// next is the character with which s begins, itself or as a reference, and how many bytes it takes there.
func next(s string) (int, int, api.Errno) {
	if s[0] != '&' {
		return First(s)
	}
	r, n, e := reference(s)
	if e == api.OK && !Char(r) {
		return 0, 0, api.ErrText
	}
	return r, n, e
}

// reference reads the reference with which s begins: its number, how many bytes it has; ErrShort, if s is only a beginning of one, ErrRef, if it is none.
func reference(s string) (int, int, api.Errno) {
	switch {
	case strings.HasPrefix(s, "&#x"):
		return numbered(s, len("&#x"), 16, 6)
	case strings.HasPrefix(s, "&#"):
		return numbered(s, len("&#"), 10, 7)
	}
	return named(s)
}

// numbered reads a number's digits, one to most of them, from a place of s on, and the ; behind them.
func numbered(s string, from, base, most int) (int, int, api.Errno) {
	r := 0
	for i := range len(s) - from {
		b := s[from+i]
		if b == ';' && i > 0 {
			return r, from + i + 1, api.OK
		}
		d := digit(b)
		if d >= base || i == most {
			return 0, 0, api.ErrRef
		}
		r = r*base + d
	}
	return 0, 0, api.ErrShort
}

// digit is what a digit counts; beyond every base, if it is none.
func digit(b byte) int {
	switch {
	case '0' <= b && b <= '9':
		return int(b - '0')
	case 'a' <= b && b <= 'f':
		return int(b-'a') + 10
	case 'A' <= b && b <= 'F':
		return int(b-'A') + 10
	}
	return 16
}

// named reads a reference by name.
func named(s string) (int, int, api.Errno) {
	names := [...]struct {
		text string
		r    int
	}{{"&amp;", '&'}, {"&lt;", '<'}, {"&gt;", '>'}, {"&quot;", '"'}, {"&apos;", '\''}}
	for _, x := range names {
		if strings.HasPrefix(s, x.text) {
			return x.r, len(x.text), api.OK
		}
		if strings.HasPrefix(x.text, s) {
			return 0, 0, api.ErrShort
		}
	}
	return 0, 0, api.ErrRef
}
