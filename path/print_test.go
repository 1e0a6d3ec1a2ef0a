package path_test

import (
	"strconv"
	"strings"
	"testing"

	"espalier/api"
	"espalier/path"
)

// wantPrint is the chapter's words: each thing as a text by itself.
func wantPrint(q api.Query) string {
	var l []string
	for _, p := range q.Paths {
		l = append(l, wantPath(p))
	}
	return strings.Join(l, " | ")
}

// wantPath is the steps with slashes between them; then a step that is to be // goes with the slashes around it. Which ones these are is told from the left.
func wantPath(p api.Path) string {
	short := make([]bool, len(p.Steps))
	for i, s := range p.Steps {
		other := i == 0 && p.Abs || i > 0 && !short[i-1]
		short[i] = other && i < len(p.Steps)-1 && s.Axis == 3 && s.Test == 4 && len(s.Preds) == 0
	}
	var out []string
	if p.Abs {
		out = append(out, "")
	}
	for i, s := range p.Steps {
		if short[i] {
			out = append(out, "")
		} else {
			out = append(out, wantStep(s))
		}
	}
	if len(p.Steps) == 0 {
		return "/"
	}
	return strings.Join(out, "/")
}

func wantStep(s api.Step) string {
	out := map[int]string{1: s.Name, 2: "*", 3: "text()", 4: "node()"}[s.Test]
	if s.Axis != 1 {
		out = axes[s.Axis] + "::" + out
	}
	for _, e := range s.Preds {
		out += "[" + wantExpr(e) + "]"
	}
	switch out {
	case "self::node()":
		return "."
	case "parent::node()":
		return ".."
	}
	return out
}

func wantExpr(e api.Expr) string {
	switch e.Op {
	case "number":
		return strconv.FormatInt(e.Number, 10)
	case "text":
		if strings.Contains(e.Text, `"`) {
			return "'" + e.Text + "'"
		}
		return `"` + e.Text + `"`
	case "attr":
		return "@" + e.Text
	case "query":
		return wantPrint(e.Query)
	case "call":
		var l []string
		for _, p := range e.Parts {
			l = append(l, wantExpr(p))
		}
		return e.Text + "(" + strings.Join(l, ", ") + ")"
	}
	return wantPart(e, 0) + " " + e.Op + " " + wantPart(e, 1)
}

func wantPart(e api.Expr, i int) string {
	p := e.Parts[i]
	is := func(op string, l ...string) bool { return strings.Contains(" "+strings.Join(l, " ")+" ", " "+op+" ") }
	last := func() api.Path { return p.Query.Paths[len(p.Query.Paths)-1] }
	switch {
	case e.Op == "and" && p.Op == "or",
		i == 1 && is(e.Op, "or", "and") && p.Op == e.Op,
		is(e.Op, signs...) && (is(p.Op, "or", "and") || is(p.Op, signs...)),
		is(e.Op, "or", "and") && p.Op == "query" && len(last().Steps) == 0:
		return "(" + wantExpr(p) + ")"
	}
	return wantExpr(p)
}

// P13.2: how paths and steps are written.
func TestPrintPaths(t *testing.T) {
	x := func(axis, test int, preds ...api.Expr) api.Step { return step(7, axis, test, preds...) }
	all, a := anywhere(-3), child(9, "a")
	for _, y := range []struct {
		p    api.Path
		want string
	}{
		{abs(0), "/"}, {rel(0, a), "a"}, {abs(0, a), "/a"}, {rel(0, a, a), "a/a"}, {abs(0, a, a), "/a/a"},
		{rel(0, x(1, 2)), "*"}, {rel(0, x(1, 3)), "text()"}, {rel(0, x(1, 4)), "node()"},
		{rel(0, x(11, 4)), "."}, {rel(0, x(4, 4)), ".."}, {abs(0, x(11, 4)), "/."}, {abs(0, x(4, 4), x(11, 4)), "/../."},
		{rel(0, x(11, 4, number(0, 1))), "self::node()[1]"}, {rel(0, x(4, 4, number(0, 1))), "parent::node()[1]"},
		{rel(0, x(11, 2)), "self::*"}, {rel(0, x(4, 3)), "parent::text()"}, {rel(0, x(5, 4)), "ancestor::node()"}, {rel(0, x(2, 4)), "descendant::node()"},
		{rel(0, a, x(11, 4), api.Step{Axis: 2, Test: 1, Name: "b"}), "a/./descendant::b"},
		// //
		{abs(0, all, a), "//a"}, {rel(0, a, all, a), "a//a"}, {abs(0, a, all, a), "/a//a"},
		{rel(0, all, a), "descendant-or-self::node()/a"}, {rel(0, all), "descendant-or-self::node()"}, {abs(0, all), "/descendant-or-self::node()"}, {rel(0, a, all), "a/descendant-or-self::node()"},
		{abs(0, all, all), "//descendant-or-self::node()"}, {abs(0, all, all, a), "//descendant-or-self::node()/a"}, {abs(0, all, all, all, a), "//descendant-or-self::node()//a"}, {abs(0, all, all, all), "//descendant-or-self::node()/descendant-or-self::node()"},
		{rel(0, all, all, a), "descendant-or-self::node()//a"}, {rel(0, all, all, all, a), "descendant-or-self::node()//descendant-or-self::node()/a"}, {rel(0, a, all, all, all, all, a), "a//descendant-or-self::node()//descendant-or-self::node()/a"},
		{abs(0, all, x(11, 4), all, x(4, 4)), "//.//.."},
		{abs(0, x(3, 4, number(0, 1)), a), "/descendant-or-self::node()[1]/a"}, {abs(0, x(3, 2), a), "/descendant-or-self::*/a"}, {abs(0, x(2, 4), a), "/descendant::node()/a"}, {rel(0, a, x(3, 3), a), "a/descendant-or-self::text()/a"},
	} {
		prints(t, query(y.p), y.want)
		if s := wantPath(y.p); s != y.want {
			t.Errorf("by the words %q; want %q", s, y.want)
		}
		prints(t, query(y.p, abs(0), y.p), y.want+" | / | "+y.want)
	}
	for axis := 2; axis <= 11; axis++ {
		s := child(0, "b")
		s.Axis = axis
		prints(t, query(rel(0, s)), axes[axis]+"::b")
	}
}

// P13.2: how expressions are written.
func TestPrintExprs(t *testing.T) {
	n := func(k int64) api.Expr { return number(0, k) }
	b := func(op string, l, r api.Expr) api.Expr { return both(0, op, l, r) }
	for _, x := range []struct {
		e    api.Expr
		want string
	}{
		{n(0), "0"}, {n(999999999), "999999999"}, {attr(0, "b"), "@b"}, {text(0, ""), `""`}, {text(0, "x"), `"x"`}, {text(0, "it's"), `"it's"`}, {text(0, `a"b`), `'a"b'`}, {text(0, "é\n"), "\"é\n\""},
		{named(0, "b"), "b"}, {asks(0, abs(0), rel(0, child(0, "b"))), "/ | b"}, {slash(), "/"},
		{call(0, "true"), "true()"}, {call(0, "not", n(1)), "not(1)"}, {call(0, "contains", n(1), text(0, ",")), `contains(1, ",")`}, {call(0, "not", b("or", n(1), n(2))), "not(1 or 2)"}, {call(0, "not", slash()), "not(/)"},
		{b("or", n(1), n(2)), "1 or 2"}, {b("and", n(1), n(2)), "1 and 2"}, {b("=", n(1), n(2)), "1 = 2"}, {b("!=", n(1), n(2)), "1 != 2"}, {b("<", n(1), n(2)), "1 < 2"}, {b("<=", n(1), n(2)), "1 <= 2"}, {b(">", n(1), n(2)), "1 > 2"}, {b(">=", n(1), n(2)), "1 >= 2"},
		{b("or", b("or", n(1), n(2)), n(3)), "1 or 2 or 3"}, {b("or", n(1), b("or", n(2), n(3))), "1 or (2 or 3)"}, {b("and", b("and", n(1), n(2)), n(3)), "1 and 2 and 3"}, {b("and", n(1), b("and", n(2), n(3))), "1 and (2 and 3)"},
		{b("or", b("and", n(1), n(2)), b("and", n(3), n(4))), "1 and 2 or 3 and 4"}, {b("and", b("or", n(1), n(2)), b("or", n(3), n(4))), "(1 or 2) and (3 or 4)"},
		{b("or", b("=", n(1), n(2)), b("<", n(3), n(4))), "1 = 2 or 3 < 4"}, {b("and", b("=", n(1), n(2)), b("<", n(3), n(4))), "1 = 2 and 3 < 4"},
		{b("=", b("=", n(1), n(2)), b("<", n(3), n(4))), "(1 = 2) = (3 < 4)"}, {b("=", b("or", n(1), n(2)), b("and", n(3), n(4))), "(1 or 2) = (3 and 4)"}, {b("<=", call(0, "last"), named(0, "b")), "last() <= b"},
		{b("=", asks(0, rel(0, child(0, "b")), rel(0, child(0, "c"))), n(1)), "b | c = 1"},
		// paths without steps
		{b("or", slash(), n(1)), "(/) or 1"}, {b("or", n(1), slash()), "1 or (/)"}, {b("and", slash(), slash()), "(/) and (/)"}, {b("=", slash(), slash()), "/ = /"},
		{b("or", asks(0, rel(0, child(0, "b")), abs(0)), n(1)), "(b | /) or 1"}, {b("or", asks(0, abs(0), rel(0, child(0, "b"))), n(1)), "/ | b or 1"}, {b("or", asks(0, abs(0, child(0, "b"))), n(1)), "/b or 1"},
		{b("or", n(1), b("=", n(2), slash())), "1 or 2 = /"}, {b("or", b("=", slash(), n(2)), n(1)), "/ = 2 or 1"}, {call(0, "starts", slash(), b("=", n(2), slash())), "starts(/, 2 = /)"},
		// where a word would be read as their step
		{b("or", b("=", n(2), slash()), n(1)), "2 = (/) or 1"}, {b("and", b("<", slash(), slash()), n(1)), "/ < (/) and 1"}, {b("or", b("and", n(3), b("=", n(2), slash())), n(1)), "3 and 2 = (/) or 1"}, {b("or", b("or", n(3), b("=", n(2), slash())), n(1)), "3 or 2 = (/) or 1"},
		{b("or", n(1), b("and", b("=", n(2), slash()), n(3))), "1 or 2 = (/) and 3"}, {b("and", b("or", n(3), b("=", n(2), slash())), n(1)), "(3 or 2 = /) and 1"}, {b("and", n(1), b("and", n(3), b("=", n(2), slash()))), "1 and (3 and 2 = /)"},
		{b("or", b("=", n(2), asks(0, rel(0, child(0, "b")), abs(0))), n(1)), "2 = (b | /) or 1"}, {b("=", b("or", b("=", n(2), slash()), n(1)), slash()), "(2 = (/) or 1) = /"},
	} {
		prints(t, holding(x.e), "a["+x.want+"]")
		reads := both(0, "or", n(5), call(0, "not", x.e))
		prints(t, holding(reads), "a[5 or not("+x.want+")]")
	}
	prints(t, query(rel(0, child(0, "a", n(1), named(0, "b")), step(0, 1, 2, n(3)))), "a[1][b]/*[3]")
}

// P13.2, P13.4: any query is written by the words, but for brackets without which it would not come back; and it comes back.
func TestPrintAny(t *testing.T) {
	m := newMaker(10)
	plain, more := 0, 0
	for range 20000 {
		q := m.query(1 + m.IntN(40))
		s, e := path.Print(q)
		if e != api.OK {
			t.Fatalf("Print(%s): %d", show(q), e)
		}
		if len(s) > api.MaxQuery {
			continue
		}
		back, _, e := path.Parse(s)
		if e != api.OK || !same(clear(back), clear(q)) {
			t.Fatalf("Print(%s): %q, which is read as %s, %d", show(q), s, show(back), e)
		}
		want := wantPrint(q)
		if byWords, _, e := path.Parse(want); e == api.OK && same(clear(byWords), clear(q)) {
			plain++
			if s != want {
				t.Fatalf("Print(%s): %q; want %q", show(q), s, want)
			}
			continue
		}
		more++
		without := strings.NewReplacer("(/)", "/", " | /)", " | /", "(", "", ")", "")
		if without.Replace(s) != without.Replace(want) {
			t.Fatalf("Print(%s): %q; by the words %q", show(q), s, want)
		}
	}
	if plain < 15000 || more < 20 {
		t.Error(plain, more)
	}
}

// P13.4: a text that is written in any form is printed as if there were no blanks in it.
func TestPrintBlanks(t *testing.T) {
	m := newMaker(11)
	for range 3000 {
		q := m.query(1 + m.IntN(30))
		s, _ := write(nil, q)
		want, _, _ := path.Parse(s)
		first, _ := path.Print(want)
		for range 3 {
			s, _ := write(m, q)
			if len(s) > api.MaxQuery {
				continue
			}
			q, _, e := path.Parse(s)
			if got, _ := path.Print(q); e != api.OK || got != first {
				t.Fatalf("Print of %q: %q; want %q", s, got, first)
			}
		}
	}
}

// P13.4: what Print writes is written so again, also if it is long.
func TestPrintLong(t *testing.T) {
	var l []api.Expr
	for range 127 {
		l = append(l, text(0, long(api.MaxText)))
	}
	q := query(rel(0, child(0, "a", l...)))
	s, e := path.Print(q)
	if e != api.OK || len(s) != 1+127*(api.MaxText+4) {
		t.Error(len(s), e)
	}
	refuses(t, s, 0, api.ErrLong)
	// Brackets that could be left out may lie too deep.
	e1 := both(0, "or", number(0, 1), slash())
	for range 15 {
		e1 = asks(0, rel(0, child(0, "a", e1)))
	}
	deep := holding(e1)
	in, out := strings.Repeat("a[", 16), strings.Repeat("]", 16)
	prints(t, deep, in+"1 or (/)"+out)
	refuses(t, in+"1 or (/)"+out, 37, api.ErrLong)
	if q, _, e := path.Parse(in + "1 or /" + out); e != api.OK || !same(clear(q), clear(deep)) {
		t.Error(show(q), e)
	}
}
