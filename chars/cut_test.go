package chars_test

import (
	"math"
	"math/rand"
	"strings"
	"testing"

	"espalier/api"
	"espalier/chars"
)

func length(t *testing.T, s string) int {
	t.Helper()
	n, e := chars.Len(s)
	if e != api.OK {
		t.Fatalf("Len(%.40q): %d", s, e)
	}
	return n
}

func cut(t *testing.T, s string, from, n int) string {
	t.Helper()
	got, e := chars.Cut(s, from, n)
	if e != api.OK {
		t.Fatalf("Cut(%.40q, %d, %d): %d", s, from, n, e)
	}
	return got
}

// P2.5
func TestLen(t *testing.T) {
	for s, want := range map[string]int{"": 0, "a": 1, "aéb": 3, "€\U0001f333": 2, "\r\n": 2, "e\u0301": 2, "\ufffd": 1, strings.Repeat("é", api.MaxText/2): api.MaxText / 2, strings.Repeat("a", api.MaxText): api.MaxText} {
		if n := length(t, s); n != want {
			t.Errorf("Len(%.40q): %d; want %d", s, n, want)
		}
	}
}

// P2.5: Text's error, ahead of all others.
func TestWrongTexts(t *testing.T) {
	for _, x := range wrongTexts() {
		if n, e := chars.Len(x.s); n != 0 || e != x.e {
			t.Errorf("Len(%.40q): %d, %d", x.s, n, e)
		}
		for _, at := range [][2]int{{0, 0}, {0, 1}, {-1, 0}, {0, -1}, {math.MinInt, math.MaxInt}} {
			if s, e := chars.Cut(x.s, at[0], at[1]); s != "" || e != x.e {
				t.Errorf("Cut(%.40q, %d, %d): %q, %d", x.s, at[0], at[1], s, e)
			}
		}
		if s, e := chars.Squeeze(x.s); s != "" || e != x.e {
			t.Errorf("Squeeze(%.40q): %q, %d", x.s, s, e)
		}
	}
}

// P2.5
func TestCut(t *testing.T) {
	const s = "aé€\U0001f333z"
	runes := []rune(s)
	for from := range len(runes) + 3 {
		for n := range len(runes) + 3 {
			a := min(from, len(runes))
			want := string(runes[a:min(a+n, len(runes))])
			if got := cut(t, s, from, n); got != want {
				t.Errorf("Cut(%q, %d, %d): %q; want %q", s, from, n, got, want)
			}
		}
	}
	for _, x := range []struct {
		from, n int
		want    string
	}{{1, math.MaxInt, s[1:]}, {math.MaxInt, math.MaxInt, ""}, {math.MaxInt, 0, ""}, {0, math.MaxInt, s}, {4, math.MaxInt32, "z"}} {
		if got := cut(t, s, x.from, x.n); got != x.want {
			t.Errorf("Cut(%q, %d, %d): %q; want %q", s, x.from, x.n, got, x.want)
		}
	}
	if got := cut(t, "", 0, 1); got != "" {
		t.Errorf("a cut of nothing: %q", got)
	}
	for _, at := range [][2]int{{-1, 0}, {0, -1}, {-1, -1}, {math.MinInt, 1}, {1, math.MinInt}, {-1, math.MaxInt}, {math.MaxInt, -1}} {
		for _, s := range []string{"", "a", s} {
			if got, e := chars.Cut(s, at[0], at[1]); got != "" || e != api.ErrArg {
				t.Errorf("Cut(%q, %d, %d): %q, %d", s, at[0], at[1], got, e)
			}
		}
	}
}

// P2.5
func TestSqueeze(t *testing.T) {
	for s, want := range map[string]string{
		"": "", " ": "", "\t\n\r ": "", "a": "a", " a": "a", "a ": "a", "  a \n b ": "a b", "a\tb": "a b", "a\r\nb": "a b", "a b": "a b", "\na\r\rb\t\tc\n": "a b c",
		"é  €": "é €", "a\u00a0 b": "a\u00a0 b", "\u2003a": "\u2003a", "a \u0085 b": "a \u0085 b", strings.Repeat(" ", api.MaxText): "", strings.Repeat(" ", api.MaxText-1) + "x": "x",
	} {
		if got, e := chars.Squeeze(s); got != want || e != api.OK {
			t.Errorf("Squeeze(%.40q): %q, %d; want %q", s, got, e, want)
		}
	}
}

// P2.5: against the library's fields, of the four blanks.
func TestSqueezeByFields(t *testing.T) {
	src := rand.New(rand.NewSource(5))
	parts := []string{" ", "\t", "\n", "\r", "a", "bc", "é", "\u00a0"}
	blank := func(r rune) bool { return r == 9 || r == 10 || r == 13 || r == 32 }
	for range 20000 {
		s := ""
		for range src.Intn(10) {
			s += parts[src.Intn(len(parts))]
		}
		want := strings.Join(strings.FieldsFunc(s, blank), " ")
		if got, e := chars.Squeeze(s); got != want || e != api.OK {
			t.Fatalf("Squeeze(%q): %q, %d; want %q", s, got, e, want)
		}
	}
}

// P2.8: all two samples, one behind the other.
func TestInParts(t *testing.T) {
	for _, a := range samples() {
		for _, b := range samples() {
			at, e := chars.Text(a + b)
			if len(a)+len(b) > api.MaxText {
				if at != 0 || e != api.ErrLong {
					t.Errorf("Text of %d and %d bytes: %d, %d", len(a), len(b), at, e)
				}
				continue
			}
			if at != 0 || e != api.OK {
				t.Errorf("Text(%.40q + %.40q): %d, %d", a, b, at, e)
			}
			for _, quote := range []bool{false, true} {
				if escape(t, a+b, quote) != escape(t, a, quote)+escape(t, b, quote) {
					t.Errorf("Escape(%.40q + %.40q, %v) is not that of both", a, b, quote)
				}
			}
			if length(t, a+b) != length(t, a)+length(t, b) {
				t.Errorf("Len(%.40q + %.40q) is not the sum", a, b)
			}
		}
	}
}

// P2.8: a cut, and what is behind it.
func TestCutAndTheRest(t *testing.T) {
	for _, s := range samples() {
		n := length(t, s)
		for _, k := range []int{0, 1, 2, n / 2, n - 1, n, n + 1, math.MaxInt} {
			if k < 0 {
				continue
			}
			head, tail := cut(t, s, 0, k), cut(t, s, k, math.MaxInt)
			if head+tail != s || length(t, head) != min(k, n) {
				t.Errorf("%.40q cut at %d: %d and %d bytes", s, k, len(head), len(tail))
			}
		}
	}
}
