package chars

import (
	"strings"

	"espalier/api"
)

// Len is how many characters a text has.
func Len(s string) (int, api.Errno) {
	if _, e := Text(s); e != api.OK {
		return 0, e
	}
	n := 0
	for range s {
		n++
	}
	return n, api.OK
}

// Cut is, of a text, the characters from one on, at most n of them.
func Cut(s string, from, n int) (string, api.Errno) {
	if _, e := Text(s); e != api.OK {
		return "", e
	}
	if from < 0 || n < 0 {
		return "", api.ErrArg
	}
	rest := s[place(s, from):]
	// A copy, so that a short piece does not keep the whole text alive.
	return strings.Clone(rest[:place(rest, n)]), api.OK
}

// place is where the character of a number (from 0) begins in s; where s ends, if it has no such one.
func place(s string, number int) int {
	for at := range s {
		if number == 0 {
			return at
		}
		number--
	}
	return len(s)
}

// Squeeze is a text without the blanks at its ends, with one space for several within.
func Squeeze(s string) (string, api.Errno) {
	if _, e := Text(s); e != api.OK {
		return "", e
	}
	var out strings.Builder
	gap := false
	for _, b := range []byte(s) {
		if blank(b) {
			gap = out.Len() > 0
			continue
		}
		if gap {
			out.WriteByte(' ')
		}
		gap = false
		out.WriteByte(b)
	}
	return out.String(), api.OK
}
