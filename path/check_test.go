package path_test

import (
	"strings"
	"testing"

	"espalier/api"
	"espalier/path"
)

// P13.2: which paths and steps can be.
func TestCheckSteps(t *testing.T) {
	cannot(t, api.Query{}, "no path")
	cannot(t, query(rel(0)), "no step")
	cannot(t, query(abs(0), rel(0)), "no step in the second one")
	can(t, query(abs(0)), "/")
	cannot(t, holding(asks(0)), "no path within")
	cannot(t, holding(asks(0, rel(0))), "no step within")
	for _, n := range []int{-1 << 63, -1, 0, 12, 13, 1<<63 - 1} {
		cannot(t, query(rel(0, step(0, n, api.TestNode))), "an axis")
		cannot(t, query(abs(0, child(0, "a"), step(0, n, api.TestNode))), "the axis of the second one")
	}
	for _, n := range []int{-1 << 63, -1, 0, 5, 6, 1<<63 - 1} {
		cannot(t, query(rel(0, step(0, api.ChildAxis, n))), "a test")
		cannot(t, holding(asks(0, rel(0, step(0, api.ChildAxis, n)))), "a test within")
	}
	for axis := 1; axis <= 11; axis++ {
		for test := 1; test <= 4; test++ {
			s := step(-5, axis, test)
			if test == api.TestName {
				cannot(t, query(rel(0, s)), "an empty name")
				s.Name = "n"
				can(t, query(rel(1<<62, s)), "a name")
				continue
			}
			can(t, query(rel(0, s)), "a test")
			s.Name = "n"
			cannot(t, query(rel(0, s)), "a name that is not tested")
		}
	}
	for _, name := range []string{"", "1", "-a", ".", "a b", "a:b", "é", "a\x00", "*", "text()", long(api.MaxName + 1), " a", "a "} {
		cannot(t, query(rel(0, child(0, name))), "the name "+name)
		cannot(t, holding(attr(0, name)), "the attribute "+name)
		cannot(t, holding(named(0, name)), "the name within "+name)
	}
	for _, name := range []string{"a", "Z", "_", "a-b.c9", "or", "and", "text", "node", "child", "not", long(api.MaxName)} {
		can(t, query(rel(0, child(0, name))), "the name "+name)
		can(t, holding(attr(0, name)), "the attribute "+name)
	}
}

// P13.2: which expressions can be.
func TestCheckExprs(t *testing.T) {
	one := number(0, 1)
	for _, op := range []string{"", "Or", "not", "==", "<>", "!", "+", "num", "Number", "node", "a", "or ", "query\x00", "true"} {
		cannot(t, holding(api.Expr{Op: op, Parts: []api.Expr{one, one}, Text: "a", Query: query(abs(0))}), "what is done: "+op)
		cannot(t, holding(both(0, "or", api.Expr{Op: op, Parts: []api.Expr{one, one}}, one)), "done within: "+op)
	}
	for _, op := range append([]string{"or", "and"}, signs...) {
		for n := range 5 {
			e := api.Expr{Op: op}
			for range n {
				e.Parts = append(e.Parts, one)
			}
			if n == 2 {
				can(t, holding(e), op)
			} else {
				cannot(t, holding(e), op)
			}
		}
		cannot(t, holding(both(0, op, one, api.Expr{})), "a right part of "+op)
		cannot(t, holding(both(0, op, api.Expr{}, one)), "a left part of "+op)
	}
	for _, n := range []int64{-1, -1 << 63, 1000000000, 1<<63 - 1, 1 << 32} {
		cannot(t, holding(number(0, n)), "a number")
	}
	for _, n := range []int64{0, 1, 9, 999999999} {
		can(t, holding(number(0, n)), "a number")
	}
	for _, s := range []string{"\"'", "'\"", "a'b\"c", "\x00", "\xff", "\xed\xa0\x80", "x\x1f", long(api.MaxText + 1), long(api.MaxText) + "'\""} {
		cannot(t, holding(text(0, s)), "a text")
	}
	for _, s := range []string{"", "\"", "'", "\"\"", "\t\r\n", "é", long(api.MaxText), long(api.MaxText-1) + "'"} {
		can(t, holding(text(0, s)), "a text")
	}
	for _, f := range functions {
		for n := range 5 {
			e := call(0, f.name)
			for range n {
				e.Parts = append(e.Parts, one)
			}
			if n == f.parts {
				can(t, holding(e), f.name)
			} else {
				cannot(t, holding(e), f.name)
			}
		}
		if f.parts > 0 {
			cannot(t, holding(call(0, f.name, append([]api.Expr{{}}, one, one)[:f.parts]...)), "a part of "+f.name)
		}
	}
	for _, f := range []string{"", "text", "node", "id", "True", "or", "child", "string-length"} {
		for n := range 3 {
			cannot(t, holding(call(0, f, []api.Expr{one, one}[:n]...)), "the function "+f)
		}
	}
	cannot(t, query(rel(0, child(0, "a", one, api.Expr{}))), "a second predicate")
	cannot(t, query(rel(0, child(0, "a", one), child(0, "b", api.Expr{}))), "a predicate of a second step")
	cannot(t, query(abs(0), rel(0, child(0, "a", api.Expr{}))), "a predicate of a second path")
}

// P13.2: up to 256 parts.
func TestCheckCounted(t *testing.T) {
	for n := 250; n <= 260; n++ {
		looks := can
		if n > 256 {
			looks = cannot
		}
		var paths []api.Path
		var preds, more []api.Expr
		chain := number(0, 1)
		for range n {
			paths = append(paths, abs(0))
		}
		for range n - 2 {
			preds = append(preds, number(0, 1))
		}
		for range (n - 2) / 2 {
			more = append(more, asks(0, abs(0)))
		}
		for range (n - 3) / 2 {
			chain = both(0, "or", chain, text(0, ""))
		}
		looks(t, query(paths...), "paths")
		looks(t, query(rel(0, manySteps(n-1)...)), "steps")
		looks(t, query(rel(0, child(0, "a", preds...))), "predicates")
		if n%2 == 0 {
			looks(t, query(rel(0, child(0, "a", more...))), "queries")
		} else {
			looks(t, holding(chain), "or")
		}
	}
	// What plays no part is not counted.
	e := number(0, 1)
	for range 300 {
		e.Parts = append(e.Parts, e)
		e.Query.Paths = append(e.Query.Paths, abs(0))
	}
	can(t, holding(e), "what plays no part")
}

// nest is an expression in so many brackets more.
func nest(n int, e api.Expr, in func(api.Expr) api.Expr) api.Expr {
	for range n {
		e = in(e)
	}
	return e
}

// P13.2: brackets lie up to 16 deep, those that must be there.
func TestCheckNest(t *testing.T) {
	one := number(0, 1)
	b := func(op string, l, r api.Expr) api.Expr { return both(0, op, l, r) }
	within := func(k int, e api.Expr) api.Query {
		return holding(nest(k-1, e, func(e api.Expr) api.Expr { return asks(0, rel(0, child(0, "a", e))) }))
	}
	can(t, within(16, one), "16")
	cannot(t, within(17, one), "17")
	cannot(t, within(100, one), "100")
	for _, x := range []struct {
		what string
		n    int // how many brackets it needs
		e    api.Expr
	}{
		{"a text test", 0, asks(0, rel(0, step(0, 1, 3)))},
		{"true", 1, call(0, "true")}, {"not", 1, call(0, "not", one)}, {"not not", 2, call(0, "not", call(0, "not", one))}, {"a second part", 2, call(0, "starts", one, call(0, "last"))},
		{"or", 0, b("or", one, one)}, {"or or", 0, b("or", b("or", one, one), one)}, {"or (or)", 1, b("or", one, b("or", one, one))}, {"or and", 0, b("or", b("and", one, one), b("and", one, one))},
		{"and and", 0, b("and", b("and", one, one), one)}, {"and (and)", 1, b("and", one, b("and", one, one))}, {"and (or)", 1, b("and", one, b("or", one, one))}, {"(or) and", 1, b("and", b("or", one, one), one)},
		{"sign", 0, b("=", one, one)}, {"(sign) sign", 1, b("=", b("<", one, one), one)}, {"sign (sign)", 1, b("=", one, b("=", one, one))}, {"sign (or)", 1, b("=", one, b("or", one, one))}, {"(and) sign", 1, b("=", b("and", one, one), one)}, {"or sign", 0, b("or", one, b("=", one, one))},
		{"sign (or (or))", 2, b("=", one, b("or", one, b("or", one, one)))}, {"((sign) sign) sign", 2, b("=", b("=", b("=", one, one), one), one)},
		{"/", 0, slash()}, {"(/) or", 1, b("or", slash(), one)}, {"or /", 0, b("or", one, slash())}, {"(/) and", 1, b("and", slash(), one)}, {"/ =", 0, b("=", slash(), one)}, {"= /", 0, b("=", one, slash())},
		{"= (/) or", 1, b("or", b("=", one, slash()), one)}, {"/ = or", 0, b("or", b("=", slash(), one), one)}, {"or = /", 0, b("or", one, b("=", one, slash()))}, {"or = (/) or", 1, b("or", b("or", one, b("=", one, slash())), one)}, {"or (/) and", 1, b("or", one, b("and", slash(), one))}, {"and (/) or", 1, b("or", b("and", one, slash()), one)}, {"(or /) and", 1, b("and", b("or", one, slash()), one)}, {"(or /) = /", 1, b("=", b("or", one, slash()), slash())},
		{"(a[1] | /) or", 2, b("or", asks(0, rel(0, child(0, "a", one)), abs(0)), one)}, {"/ | a or", 0, b("or", asks(0, abs(0), rel(0, child(0, "a"))), one)}, {"or a[1] | /", 1, b("or", one, asks(0, rel(0, child(0, "a", one)), abs(0)))},
		{"not(/)", 1, call(0, "not", slash())}, {"not(or /) or", 1, b("or", call(0, "not", b("or", one, slash())), one)},
	} {
		can(t, within(16-x.n, x.e), x.what)
		if x.n > 0 {
			cannot(t, within(17-x.n, x.e), x.what)
		}
		// So many brackets are there in the text that has no more than it must.
		s, _ := write(nil, within(1, x.e))
		if _, e := heldAgainstWords(t, s); e != api.OK {
			t.Error(x.what, s, e)
		}
		if n := deepest(strings.ReplaceAll(s, "text()", "")); n != x.n+1 {
			t.Errorf("%s: %d brackets in %s", x.what, n, s)
		}
	}
}

// deepest is how deep brackets lie in one another.
func deepest(s string) int {
	open, most := 0, 0
	for _, c := range s {
		switch c {
		case '(', '[':
			open++
		case ')', ']':
			open--
		}
		most = max(most, open)
	}
	return most
}

// P13.2: a query can be just if it comes back from the text that has no more than it must; any query, spoiled.
func TestCheckAny(t *testing.T) {
	m := newMaker(20)
	fine, bad := 0, 0
	for range 15000 {
		q := copyOf(m.query(1 + m.IntN(25)))
		for range m.IntN(3) {
			m.spoil(q)
		}
		if m.IntN(3) == 0 {
			for range 4 + m.IntN(10) {
				q = holding(api.Expr{Op: "query", Query: q})
			}
		}
		s, _ := write(nil, q)
		back, _, e := wantParse(s)
		want := api.ErrArg
		if e == api.OK && same(clear(back), clear(q)) {
			want = api.OK
		}
		if got := path.Check(q); got != want {
			t.Fatalf("Check(%s): %d; %q is read as %s, %d", show(q), got, s, show(back), e)
		}
		if want == api.OK {
			fine++
			if e := path.Check(junk(q)); e != api.OK {
				t.Fatalf("Check(%s) with what plays no part: %d", show(q), e)
			}
			a, _ := path.Print(q)
			if b, e := path.Print(junk(q)); e != api.OK || a != b {
				t.Fatalf("Print with what plays no part: %q, %d; want %q", b, e, a)
			}
		} else {
			bad++
		}
	}
	if fine < 4000 || bad < 4000 {
		t.Error(fine, bad)
	}
}

// spoil makes something in a query other than it was.
func (m *maker) spoil(q api.Query) {
	p := &q.Paths[m.IntN(len(q.Paths))]
	if len(p.Steps) == 0 || m.IntN(12) == 0 {
		p.Abs = !p.Abs
		return
	}
	s := &p.Steps[m.IntN(len(p.Steps))]
	switch k := m.IntN(8); {
	case k == 0:
		s.Axis = m.IntN(14) - 1
	case k == 1:
		s.Test = m.IntN(7) - 1
	case k == 2:
		s.Name = pick(m, []string{"", "1", "a", long(33)})
	case k == 3:
		s.Name, s.Test = "a b", api.TestName
	case len(s.Preds) > 0:
		m.spoilExpr(&s.Preds[m.IntN(len(s.Preds))])
	}
}

func (m *maker) spoilExpr(e *api.Expr) {
	if e.Op == "query" && m.IntN(2) == 0 && len(e.Query.Paths) > 0 {
		m.spoil(e.Query)
		return
	}
	if len(e.Parts) > 0 && m.IntN(2) == 0 {
		m.spoilExpr(&e.Parts[m.IntN(len(e.Parts))])
		return
	}
	switch m.IntN(6) {
	case 0:
		e.Op = pick(m, []string{"or", "and", "=", "number", "text", "attr", "call", "query", "none"})
	case 1:
		e.Text = pick(m, []string{"", "a", "'\"", "\x00", "true", "not", "text"})
	case 2:
		e.Number = pick(m, []int64{-1, 0, 1000000000})
	case 3:
		e.Parts = append(e.Parts, number(0, 1))
	case 4:
		e.Parts = e.Parts[:max(len(e.Parts)-1, 0)]
	case 5:
		e.Query.Paths = nil
	}
}

// Every call ends, also of a query that hangs in itself.
func TestCheckEnds(t *testing.T) {
	paths, steps := make([]api.Path, 1), make([]api.Step, 1)
	one, two := make([]api.Expr, 1), make([]api.Expr, 2)
	paths[0] = rel(0, steps[0])
	paths[0].Steps = steps
	steps[0] = child(0, "a")
	for _, x := range []struct {
		what string
		e    api.Expr
		l    []api.Expr
	}{
		{"not", api.Expr{Op: "call", Text: "not", Parts: one}, one},
		{"starts", api.Expr{Op: "call", Text: "starts", Parts: two}, two},
		{"or", api.Expr{Op: "or", Parts: two}, two},
		{"and", api.Expr{Op: "and", Parts: two}, two},
		{"=", api.Expr{Op: "=", Parts: two}, two},
		{"query", api.Expr{Op: "query", Query: api.Query{Paths: paths}}, one},
	} {
		for i := range x.l {
			x.l[i] = x.e
		}
		steps[0].Preds = x.l
		cannot(t, api.Query{Paths: paths}, x.what)
	}
	// A left part that hangs in itself needs no brackets.
	two[0], two[1] = api.Expr{Op: "or", Parts: two}, number(0, 1)
	steps[0].Preds = two[:1]
	cannot(t, api.Query{Paths: paths}, "or on the left")
	// What plays no part may hang in itself.
	one[0] = api.Expr{Op: "number", Parts: one, Query: api.Query{Paths: paths}}
	steps[0].Preds = one
	prints(t, api.Query{Paths: paths}, "a[0]")
	cannot(t, query(make([]api.Path, 1<<20)...), "many paths")
	cannot(t, query(rel(0, make([]api.Step, 1<<20)...)), "many steps")
}
