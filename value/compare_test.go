package value_test

import (
	"slices"
	"strconv"
	"strings"
	"testing"

	"espalier/api"
	"espalier/value"
)

// compares: by these signs, and by no others, it is so.
func compares(t *testing.T, a, b api.Value, so ...string) {
	t.Helper()
	for _, op := range signs {
		if is, e := value.Compare(op, a, b); is != slices.Contains(so, op) || e != api.OK {
			t.Errorf("%s %s %s: %v, %d", show(a), op, show(b), is, e)
		}
	}
}

// P14.2: what is none of the signs, and values that can't be.
func TestCompareWrong(t *testing.T) {
	for _, op := range []string{"", "==", "!", "<>", "=<", "=>", " =", "= ", "or", "and", "eq", "<=>", "≤", "=\x00"} {
		for _, v := range append(wrong(), number(1), nodes("1")) {
			if is, e := value.Compare(op, v, v); is || e != api.ErrArg {
				t.Errorf("%q: %v, %d", op, is, e)
			}
		}
	}
	for _, op := range signs {
		for _, v := range wrong() {
			for _, x := range []api.Value{truth(true), number(1), text("1"), nodes("1"), nodes(), v} {
				if is, e := value.Compare(op, v, x); is || e != api.ErrValue {
					t.Errorf("%s %s %s: %v, %d", show(v), op, show(x), is, e)
				}
				if is, e := value.Compare(op, x, v); is || e != api.ErrValue {
					t.Errorf("%s %s %s: %v, %d", show(x), op, show(v), is, e)
				}
			}
		}
	}
}

// P14.2: two that are no nodes.
func TestComparePlain(t *testing.T) {
	lower, equal, upper := []string{"!=", "<", "<="}, []string{"=", "<=", ">="}, []string{"!=", ">", ">="}
	compares(t, number(1), number(2), lower...)
	compares(t, number(2), number(2), equal...)
	compares(t, number(3), number(2), upper...)
	compares(t, number(least), number(greatest), lower...)
	compares(t, number(greatest), number(least), upper...)
	compares(t, number(least), number(1), lower...)
	compares(t, none(), none(), "!=")
	compares(t, none(), number(0), "!=")
	compares(t, number(0), none(), "!=")
	compares(t, api.Value{Kind: api.VNumber, None: true, Num: 1}, number(1), "!=")
	// Texts by = and != as such, else as numbers.
	compares(t, text("10"), text("9"), upper...)
	compares(t, text("1"), text("01"), "!=", "<=", ">=")
	compares(t, text("1"), text("1"), equal...)
	compares(t, text("x"), text("x"), "=")
	compares(t, text("x"), text("y"), "!=")
	compares(t, text(""), text(""), "=")
	compares(t, text(" 1"), number(1), equal...)
	compares(t, number(1), text("x"), "!=")
	compares(t, none(), text("NaN"), "!=")
	// A truth by = and != as a truth, else as a number.
	compares(t, truth(false), truth(true), lower...)
	compares(t, truth(true), truth(true), equal...)
	compares(t, truth(true), truth(false), upper...)
	compares(t, truth(true), number(5), "=", "<", "<=")
	compares(t, truth(true), number(1), equal...)
	compares(t, truth(false), number(-1), "!=", ">", ">=")
	compares(t, truth(true), text("x"), "=")
	compares(t, truth(true), text("0"), "=", ">", ">=")
	compares(t, truth(false), text(""), "=")
	compares(t, truth(false), text("0"), "!=", "<=", ">=")
	// No number is false as a truth, and as that it is held against truths.
	compares(t, truth(false), none(), "=")
	compares(t, none(), truth(true), "!=")
}

// P14.2: nodes.
func TestCompareNodes(t *testing.T) {
	lower, equal, upper := []string{"!=", "<", "<="}, []string{"=", "<=", ">="}, []string{"!=", ">", ">="}
	for _, v := range []api.Value{number(0), none(), text(""), text("x"), nodes(), nodes("x", "1")} {
		compares(t, nodes(), v)
		compares(t, v, nodes())
	}
	compares(t, nodes(), truth(false), equal...)
	compares(t, nodes(), truth(true), lower...)
	compares(t, nodes("", "0"), truth(true), equal...)
	compares(t, nodes("0"), truth(false), upper...)
	compares(t, truth(false), nodes("0"), lower...)
	compares(t, truth(true), nodes(), upper...)
	compares(t, nodes("1", "x"), number(1), "=", "!=", "<=", ">=")
	compares(t, nodes("1"), number(1), equal...)
	compares(t, nodes("x"), number(1), "!=")
	compares(t, nodes("x"), none(), "!=")
	compares(t, nodes("01"), text("1"), "!=", "<=", ">=")
	compares(t, nodes("01"), number(1), equal...)
	compares(t, nodes("x", "3", "1"), number(2), "!=", "<", "<=", ">", ">=")
	compares(t, number(2), nodes("x", "3"), lower...)
	compares(t, nodes("x", "y"), text("y"), "=", "!=")
	compares(t, text("y"), nodes("y", "y"), "=")
	compares(t, nodes("1", "2"), nodes("2", "3"), "=", "!=", "<", "<=", ">=")
	compares(t, nodes("1", "5"), nodes("3"), "!=", "<", "<=", ">", ">=")
	compares(t, nodes("a", "a"), nodes("a"), "=")
	compares(t, nodes("a"), nodes("a", "b"), "=", "!=")
	compares(t, nodes("a", "b"), nodes("c", "d"), "!=")
}

// P14.2: all values against all, each text held against each.
func TestCompareAll(t *testing.T) {
	l := values()
	for i, a := range l {
		for k, b := range l {
			for _, op := range signs {
				want := against(op, a, b)
				if is, e := value.Compare(op, a, b); is != want || e != api.OK {
					t.Fatalf("%s %s %s: %v, %d", show(a), op, show(b), is, e)
				}
				if i%7 != 0 || k%5 != 0 {
					continue
				}
				if is, e := value.Compare(op, junk(a), junk(b)); is != want || e != api.OK {
					t.Fatalf("%s %s %s, with junk: %v, %d", show(a), op, show(b), is, e)
				}
			}
		}
	}
}

// anyNodes is nodes of few texts, in any number.
func anyNodes(seed uint64, n int) []api.Value {
	r := dice(seed)
	var l []api.Value
	for range n {
		var list []string
		from, width := r.IntN(9)-4, 1+r.IntN(6)
		for range r.IntN(8) {
			s := strconv.Itoa(from + r.IntN(width))
			list = append(list, pick(r, []string{s, s, s, " " + s, "x" + s, ""}))
		}
		l = append(l, nodes(list...))
	}
	return l
}

// P14.2: longer lists.
func TestCompareLists(t *testing.T) {
	l := append(anyNodes(4, 150), number(0), text("1"), none(), truth(true))
	for _, a := range l {
		for _, b := range l {
			for _, op := range signs {
				if is, e := value.Compare(op, a, b); is != against(op, a, b) || e != api.OK {
					t.Fatalf("%s %s %s: %v, %d", show(a), op, show(b), is, e)
				}
			}
		}
	}
}

// P14.2: full lists of long texts, that are alike up to their ends, end soon.
func TestCompareFull(t *testing.T) {
	long := strings.Repeat("x", 1000)
	a := slices.Repeat([]string{long + "a"}, api.MaxNodes)
	b := slices.Repeat([]string{long + "b"}, api.MaxNodes)
	compares(t, nodes(a...), nodes(b...), "!=")
	compares(t, nodes(a...), nodes(a...), "=")
	b[api.MaxNodes-1] = a[0]
	compares(t, nodes(a...), nodes(b...), "=", "!=")
	compares(t, nodes(b...), text(long+"a"), "=", "!=")
	var even, odd []string
	for i := range api.MaxNodes {
		even, odd = append(even, strconv.Itoa(2*i)), append(odd, strconv.Itoa(2*i+1))
	}
	compares(t, nodes(even...), nodes(odd...), "!=", "<", "<=", ">", ">=")
	compares(t, nodes(even...), number(2*api.MaxNodes), "!=", "<", "<=")
	compares(t, nodes(odd...), number(1), "=", "!=", "<=", ">", ">=")
	for _, v := range full() {
		for _, op := range signs {
			if is, e := value.Compare(op, v, text("1")); is != against(op, v, text("1")) || e != api.OK {
				t.Errorf("%s %s 1: %v, %d", show(v), op, is, e)
			}
		}
	}
}

// P14.7: turned about.
func TestTurnedAbout(t *testing.T) {
	turned := map[string]string{"=": "=", "!=": "!=", "<": ">", "<=": ">=", ">": "<", ">=": "<="}
	l := append(values(), anyNodes(5, 60)...)
	for i, a := range l {
		for _, b := range l[:i+1] {
			for op, back := range turned {
				x, e := value.Compare(op, a, b)
				y, f := value.Compare(back, b, a)
				if x != y || e != api.OK || f != api.OK {
					t.Fatalf("%s %s %s: %v, %d, turned about %v, %d", show(a), op, show(b), x, e, y, f)
				}
			}
		}
	}
}

// P14.8: nodes are held against a text, a number or nodes just as one of them is, alone.
func TestOneOf(t *testing.T) {
	var others []api.Value
	for _, v := range append(values(), anyNodes(6, 30)...) {
		if v.Kind != api.VBool {
			others = append(others, v)
		}
	}
	for _, v := range anyNodes(7, 100) {
		for _, x := range others {
			for _, op := range signs {
				alone, asText := false, false
				for _, s := range v.Texts {
					one, _ := value.Compare(op, nodes(s), x)
					plain, _ := value.Compare(op, text(s), x)
					alone, asText = alone || one, asText || plain
				}
				if is, e := value.Compare(op, v, x); is != alone || is != asText || e != api.OK {
					t.Fatalf("%s %s %s: %v, %d; alone %v, as texts %v", show(v), op, show(x), is, e, alone, asText)
				}
			}
		}
	}
}
