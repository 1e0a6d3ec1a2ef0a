package value_test

import (
	"strconv"
	"strings"
	"testing"

	"espalier/api"
	"espalier/value"
)

// turns: a value is so as a truth, as a number, as a text.
func turns(t *testing.T, v api.Value, is bool, n int64, isNumber bool, s string) {
	t.Helper()
	if b, e := value.Bool(v); b != is || e != api.OK {
		t.Errorf("Bool(%s): %v, %d", show(v), b, e)
	}
	if x, ok, e := value.Number(v); x != n || ok != isNumber || e != api.OK {
		t.Errorf("Number(%s): %d, %v, %d", show(v), x, ok, e)
	}
	if x, e := value.Text(v); x != s || e != api.OK {
		t.Errorf("Text(%s): %.60q, %d", show(v), x, e)
	}
}

// P14.2: each kind as the others.
func TestTurns(t *testing.T) {
	turns(t, truth(true), true, 1, true, "true")
	turns(t, truth(false), false, 0, true, "false")
	turns(t, number(0), false, 0, true, "0")
	turns(t, number(7), true, 7, true, "7")
	turns(t, number(-7), true, -7, true, "-7")
	turns(t, number(least), true, least, true, "-9223372036854775808")
	turns(t, number(greatest), true, greatest, true, "9223372036854775807")
	turns(t, none(), false, 0, false, "NaN")
	turns(t, text(""), false, 0, false, "")
	turns(t, text("0"), true, 0, true, "0")
	turns(t, text(" 12\n"), true, 12, true, " 12\n")
	turns(t, text("false"), true, 0, false, "false")
	turns(t, nodes(), false, 0, false, "")
	turns(t, nodes(""), true, 0, false, "")
	turns(t, nodes("5", "6"), true, 5, true, "5")
	turns(t, nodes("x", "6"), true, 0, false, "x")
	turns(t, api.Value{Kind: api.VNodes, Texts: []string{}}, false, 0, false, "")
}

// P14.2: what a kind does not name plays no part, and neither does the Num of no number.
func TestTurnsJunk(t *testing.T) {
	turns(t, api.Value{Kind: api.VNumber, None: true, Num: 5}, false, 0, false, "NaN")
	for _, v := range append(values(), full()...) {
		n := numeral(numberOf(v))
		turns(t, v, isTrue(v), n.Num, !n.None, textOf(v))
		turns(t, junk(v), isTrue(v), n.Num, !n.None, textOf(v))
	}
}

// P14.2: values that can't be.
func TestTurnsWrong(t *testing.T) {
	for _, v := range wrong() {
		if b, e := value.Bool(v); b || e != api.ErrValue {
			t.Errorf("Bool(%s): %v, %d", show(v), b, e)
		}
		if n, ok, e := value.Number(v); n != 0 || ok || e != api.ErrValue {
			t.Errorf("Number(%s): %d, %v, %d", show(v), n, ok, e)
		}
		if s, e := value.Text(v); s != "" || e != api.ErrValue {
			t.Errorf("Text(%s): %.60q, %d", show(v), s, e)
		}
	}
}

// P14.2: which texts are numbers.
func TestNumberOfText(t *testing.T) {
	noughts := strings.Repeat("0", api.MaxText-2)
	for s, want := range map[string]int64{
		"0": 0, "-0": 0, "00": 0, "007": 7, "-007": -7, "9": 9, "1234567890": 1234567890,
		" 1": 1, "1 ": 1, "\t\n\r 1 \r\n\t": 1, "\n-1\n": -1,
		"9223372036854775807": greatest, "-9223372036854775808": least, "009223372036854775807": greatest, " -009223372036854775808 ": least,
		noughts + "7": 7, "-" + noughts + "7": -7, noughts: 0, strings.Repeat(" ", api.MaxText-1) + "3": 3,
	} {
		turns(t, text(s), true, want, true, s)
		turns(t, nodes(s), true, want, true, s)
	}
	for _, s := range []string{
		"-", "--1", "+1", "+", "+0", "-+1", "+-1", " +1", "- 1", "1-", "1 2", "1\n2", "1,0", "1.0", ".5", "1e3", "0x1", "0b1", "0o7", "1_0", "_1", "x", "1x", "x1", "NaN", "true", "∞",
		"\u00a01", "1\u2003", "\u20281", "\u0085" + "1", "１", "١", "−1", "²",
		"9223372036854775808", "-9223372036854775809", "18446744073709551616", "18446744073709551617", "99999999999999999999", "-99999999999999999999",
		strings.Repeat("9", api.MaxText), strings.Repeat(" ", api.MaxText),
	} {
		turns(t, text(s), true, 0, false, s)
		turns(t, nodes(s, "1"), true, 0, false, s)
	}
}

// P14.2: all short texts of the characters that matter, against a pattern and numbers without bounds.
func TestNumberOfShortTexts(t *testing.T) {
	const letters = "019- \n+_.xé"
	texts := []string{""}
	for from := 0; len(texts) < 20000; {
		end := len(texts)
		for _, s := range texts[from:end] {
			for _, c := range letters {
				texts = append(texts, s+string(c))
			}
		}
		from = end
	}
	for _, s := range texts {
		n := numeral(readNumber(s))
		if x, ok, e := value.Number(text(s)); x != n.Num || ok == n.None || e != api.OK {
			t.Fatalf("Number(%q): %d, %v, %d", s, x, ok, e)
		}
	}
}

// P14.2: numbers around where the range ends, with anything ahead and behind.
func TestNumberOfLongTexts(t *testing.T) {
	r := dice(2)
	for range 20000 {
		digits := pick(r, []string{"922337203685477580", "999999999999999999", "18446744073709551", ""}) + strconv.Itoa(r.IntN(1000))
		s := pick(r, []string{"", " ", "\t\r", "\v", "+"}) + pick(r, []string{"", "-", "", "--"}) + pick(r, []string{"", "0", "000"}) + digits + pick(r, []string{"", "\n ", " ", "\f", "x"})
		if _, e := value.Text(text(s)); e != api.OK {
			continue
		}
		n := numeral(readNumber(s))
		if x, ok, e := value.Number(text(s)); x != n.Num || ok == n.None || e != api.OK {
			t.Fatalf("Number(%q): %d, %v, %d", s, x, ok, e)
		}
	}
}

// P14.6: as a text, and that again, it is the same number, but of VBool; a text stays itself; a number comes back.
func TestAnyForm(t *testing.T) {
	r := dice(3)
	list := append(values(), full()...)
	for range 1000 {
		list = append(list, number(int64(r.Uint64())>>r.IntN(64)))
	}
	for _, v := range list {
		s, e := value.Text(v)
		if e != api.OK {
			t.Fatal(e)
		}
		again, _ := value.Text(text(s))
		if again != s {
			t.Errorf("%s as a text is %q, and that %q", show(v), s, again)
		}
		if v.Kind == api.VText && s != v.Text {
			t.Errorf("%s does not stay itself: %q", show(v), s)
		}
		n, ok, _ := value.Number(text(s))
		m, is, _ := value.Number(v)
		if v.Kind != api.VBool && (n != m || ok != is) {
			t.Errorf("%s is %d, %v, but as a text %d, %v", show(v), m, is, n, ok)
		}
		if v.Kind == api.VNumber && !v.None && (n != v.Num || !ok) {
			t.Errorf("%s does not come back: %d, %v", show(v), n, ok)
		}
		if v.Kind == api.VBool && ok {
			t.Errorf("%s as a text is a number", show(v))
		}
	}
}
