package value_test

import (
	"errors"
	"reflect"
	"slices"
	"strings"
	"testing"

	"espalier/api"
	"espalier/value"
)

type asker = func(q api.Query) ([]string, api.Errno)

// answering is a function that answers these.
func answering(l ...string) asker {
	return func(api.Query) ([]string, api.Errno) { return l, api.OK }
}

// never must not be asked.
func never(t *testing.T) asker {
	return func(q api.Query) ([]string, api.Errno) {
		t.Helper()
		t.Errorf("asked: %s", show(q))
		return nil, api.OK
	}
}

// byName answers of a query of one name what stands here under it.
func byName(l map[string][]string) asker {
	return func(q api.Query) ([]string, api.Errno) { return l[q.Paths[0].Steps[0].Name], api.OK }
}

// evals: an expression answers so.
func evals(t *testing.T, e string, here api.Here, ask asker, want api.Value) {
	t.Helper()
	if v, why := value.Eval(expr(t, e), here, ask); !same(v, want) || why != api.OK {
		t.Errorf("%s: %s, %d; want %s", e, show(v), why, show(want))
	}
}

// fails: an expression answers an error, and so does Holds.
func fails(t *testing.T, e api.Expr, here api.Here, ask asker, want api.Errno) {
	t.Helper()
	if v, why := value.Eval(e, here, ask); !same(v, api.Value{}) || why != want {
		t.Errorf("Eval of %.200s: %s, %d; want %d", written(e), show(v), why, want)
	}
	if is, why := value.Holds(e, here, ask); is || why != want {
		t.Errorf("Holds of %.200s: %v, %d; want %d", written(e), is, why, want)
	}
}

// P14.4, P14.5: nobody to ask, and expressions that can't be.
func TestEvalWrong(t *testing.T) {
	var here api.Here
	one := api.Expr{Op: "number", Number: 1}
	fails(t, one, here, nil, api.ErrArg)
	fails(t, api.Expr{}, here, nil, api.ErrArg)
	loop := []api.Expr{{Op: "call", Text: "not"}}
	loop[0].Parts = loop
	asks := api.Expr{Op: "query", Query: holder(one)}
	asks.Query.Paths[0].Steps[0].Preds = []api.Expr{{Op: "query"}}
	for _, e := range []api.Expr{
		{}, {Op: "none"}, {Op: "Or", Parts: []api.Expr{one, one}}, {Op: "=="},
		{Op: "or"}, {Op: "or", Parts: []api.Expr{one}}, {Op: "and", Parts: []api.Expr{one, one, one}}, {Op: "<", Parts: []api.Expr{one}}, {Op: "=", Parts: []api.Expr{one, {}}},
		{Op: "number", Number: -1}, {Op: "number", Number: 1000000000},
		{Op: "text", Text: "\x00"}, {Op: "text", Text: "'\""}, {Op: "text", Text: long(api.MaxText + 1)},
		{Op: "attr"}, {Op: "attr", Text: "1"}, {Op: "attr", Text: long(api.MaxName + 1)},
		{Op: "call", Text: "nothing"}, {Op: "call"}, {Op: "call", Text: "true", Parts: []api.Expr{one}}, {Op: "call", Text: "not"}, {Op: "call", Text: "not", Parts: []api.Expr{{Op: "text", Text: "\xff"}}}, {Op: "call", Text: "starts", Parts: []api.Expr{one}},
		{Op: "query"}, {Op: "query", Query: api.Query{Paths: []api.Path{{}}}}, asks,
		loop[0], nested(one, 16), chain(one, 128), nested(chain(one, 127), 2),
	} {
		fails(t, e, here, never(t), api.ErrArg)
		fails(t, e, here, nil, api.ErrArg)
		// What would not be asked must be able to be, too.
		yes := api.Expr{Op: "call", Text: "true"}
		fails(t, api.Expr{Op: "or", Parts: []api.Expr{yes, e}}, here, never(t), api.ErrArg)
	}
	// The limits are allowed themselves.
	for _, e := range []api.Expr{nested(one, 14), chain(one, 127), nested(chain(one, 127), 1)} {
		if v, why := value.Eval(e, here, never(t)); v.Kind != api.VBool || why != api.OK {
			t.Errorf("%.60s: %s, %d", written(e), show(v), why)
		}
	}
	if v, why := value.Eval(nested(one, 15), here, never(t)); !same(v, truth(false)) || why != api.OK {
		t.Error(v, why)
	}
}

// P14.4: what each expression answers.
func TestEvalPlain(t *testing.T) {
	here := api.Here{Position: 2, Last: 5, Name: "n", Text: "t", Attrs: []api.Attr{{Name: "a", Value: "1"}, {Name: "b", Value: ""}, {Name: "a", Value: "2"}}}
	ask := byName(map[string][]string{"x": {"1", "2"}, "y": {"2"}, "z": {"q"}})
	for s, want := range map[string]api.Value{
		`7`: number(7), `0`: number(0), `999999999`: number(999999999), `"s"`: text("s"), `''`: text(""),
		`@a`: nodes("1"), `@b`: nodes(""), `@c`: nodes(), `@A`: nodes(),
		`x`: nodes("1", "2"), `none`: nodes(), `z`: nodes("q"),
		`position()`: number(2), `last()`: number(5), `name()`: text("n"), `true()`: truth(true), `false()`: truth(false),
		`not(@c)`: truth(true), `not(@b)`: truth(false), `count(x)`: number(2), `count(@b)`: number(1), `count(1)`: none(), `sum(x)`: number(3), `sum(z)`: none(),
		`string(x)`: text("1"), `string(none)`: text(""), `string(1 = 1)`: text("true"), `number("x")`: none(), `number(@a)`: number(1), `length("é")`: number(1),
		`contains(name(), "n")`: truth(true), `starts(@a, x)`: truth(true), `starts(@a, y)`: truth(false),
		`1 or 0`: truth(true), `0 or ""`: truth(false), `0 or "x"`: truth(true), `none or @b`: truth(true), `1 and 0`: truth(false), `0 and 1`: truth(false), `1 and "x"`: truth(true), `x and none`: truth(false),
		`x = y`: truth(true), `x != y`: truth(true), `x < y`: truth(true), `x > y`: truth(false), `y > x`: truth(true), `x <= 1`: truth(true), `y >= 3`: truth(false), `x = "q"`: truth(false), `z = "q"`: truth(true),
		`"10" < "9"`: truth(false), `2 < 10`: truth(true), `2 > 10`: truth(false), `10 >= 2`: truth(true), `10 <= 2`: truth(false), `position() = 2`: truth(true), `position() = last()`: truth(false), `none = false()`: truth(true),
		`number("a") = number("a")`: truth(false), `number("a") != number("a")`: truth(true),
		`1 or 0 and 0`: truth(true), `(1 or 0) and 0`: truth(false), `(1 < 2) = (2 < 3)`: truth(true),
	} {
		evals(t, s, here, ask, want)
	}
}

// P14.4: of or and and, the rest is not asked as soon as it is clear, and errors that lie there do not matter.
func TestEvalShort(t *testing.T) {
	bad := api.Here{Name: "\x00", Attrs: []api.Attr{{Name: "a", Value: "\xff"}}}
	for s, want := range map[string]bool{
		`true() or x`: true, `1 or @a`: true, `"x" or name()`: true, `false() and x`: false, `0 and @a`: false, `"" and not(name())`: false,
		`0 or 1 or x`: true, `(0 and x) or 1 or x`: true, `(1 or x) and 0 and x`: false,
	} {
		evals(t, s, bad, never(t), truth(want))
	}
	// What is no or and no and is asked whole.
	for s, want := range map[string]string{
		`p or q`: "p", `e or q`: "eq", `e and q`: "e", `p and q`: "pq", `e or e or p or q`: "eep", `p and p and e and q`: "ppe",
		`p = q`: "pq", `e = q`: "eq", `contains(q, p)`: "qp", `contains(e, p)`: "ep", `count(e) = count(q)`: "eq", `not(e and p) or q`: "e", `(p or q) = (e or q)`: "peq", `p < p`: "pp",
	} {
		log := ""
		value.Eval(expr(t, s), api.Here{}, func(q api.Query) ([]string, api.Errno) {
			name := q.Paths[0].Steps[0].Name
			log += name
			return map[string][]string{"p": {"1"}, "q": {"2", "3"}}[name], api.OK
		})
		if log != want {
			t.Errorf("%s asks %s, want %s", s, log, want)
		}
	}
}

// P14.4: ask is handed the query as it is, places and all.
func TestEvalHands(t *testing.T) {
	m := maker{Rand: dice(11)}
	for range 200 {
		q := m.query()
		if m.IntN(2) == 0 {
			q.Paths[0].Steps[0].Preds = []api.Expr{}
		}
		e := api.Expr{Op: "query", Query: q}
		times := 0
		v, why := value.Eval(e, api.Here{}, func(got api.Query) ([]string, api.Errno) {
			times++
			if !reflect.DeepEqual(got, q) {
				t.Errorf("handed %s, want %s", show(got), show(q))
			}
			return []string{"1"}, api.OK
		})
		if times != 1 || !same(v, nodes("1")) || why != api.OK {
			t.Fatal(times, show(v), why)
		}
	}
}

// P14.4: errors that ask answers, whatever else it answers, end it.
func TestEvalErrors(t *testing.T) {
	for _, s := range []string{`p`, `p or p`, `e or p`, `p = p`, `1 = p`, `count(p)`, `contains(1, p)`, `contains(p, p)`, `not(not(p))`, `p and e`, `(p or p) and p`, `sum(p) > 1 or true()`} {
		for _, want := range []api.Errno{api.ErrArg, api.ErrValue, api.ErrPanic, api.ErrDone, api.ErrFunc, 1, 999, -7} {
			failed := false
			ask := func(q api.Query) ([]string, api.Errno) {
				if failed {
					t.Errorf("%s: asked again", s)
				}
				if q.Paths[0].Steps[0].Name == "e" {
					return nil, api.OK
				}
				failed = true
				return []string{"1", "\x00"}, want
			}
			v, why := value.Eval(expr(t, s), api.Here{}, ask)
			if !failed || !same(v, api.Value{}) || why != want {
				t.Errorf("%s: %v, %s, %d; want %d", s, failed, show(v), why, want)
			}
			failed = false
			if is, why := value.Holds(expr(t, s), api.Here{}, ask); is || why != want {
				t.Errorf("%s holds: %v, %d; want %d", s, is, why, want)
			}
		}
	}
}

// P14.4: what ask answers must be able to be.
func TestEvalAnswers(t *testing.T) {
	for _, v := range wrong() {
		if v.Kind == api.VNodes {
			for _, s := range []string{`x`, `count(x)`, `x = 1`, `1 < x`, `x or 1`, `not(x)`, `x and 0`} {
				fails(t, expr(t, s), api.Here{}, answering(v.Texts...), api.ErrValue)
			}
		}
	}
	fails(t, expr(t, `x`), api.Here{}, answering(slices.Repeat([]string{"\xff"}, 100000)...), api.ErrValue)
	for _, v := range full() {
		if v.Kind == api.VNodes {
			evals(t, `x`, api.Here{}, answering(v.Texts...), v)
			evals(t, `count(x)`, api.Here{}, answering(v.Texts...), number(int64(len(v.Texts))))
		}
	}
	evals(t, `x`, api.Here{}, answering(), nodes())
	evals(t, `x`, api.Here{}, func(api.Query) ([]string, api.Errno) { return []string{}, api.OK }, nodes())
}

// P14.4: what ask panics with does not matter, and nothing is asked any more.
func TestEvalPanics(t *testing.T) {
	var nothing map[string]int
	var list []string
	for i, give := range []func(){
		func() { panic(1) }, func() { panic("x") }, func() { panic(nil) }, func() { panic(errors.New("x")) }, func() { panic(api.OK) }, func() { panic(api.ErrArg) },
		func() { nothing["x"] = 1 }, func() { list[3] = "x" }, func() { panic([]int{1}) }, func() { panic(func() {}) },
	} {
		for _, s := range []string{`p`, `p or p`, `0 or p`, `p = p`, `contains(p, p)`, `not(p)`, `p and 0`} {
			times := 0
			ask := func(api.Query) ([]string, api.Errno) {
				times++
				give()
				return nil, api.OK
			}
			v, why := value.Eval(expr(t, s), api.Here{}, ask)
			if times != 1 || !same(v, api.Value{}) || why != api.ErrPanic {
				t.Errorf("%d, %s: %d times, %s, %d", i, s, times, show(v), why)
			}
			if is, why := value.Holds(expr(t, s), api.Here{}, ask); is || why != api.ErrPanic {
				t.Errorf("%d, %s holds: %v, %d", i, s, is, why)
			}
		}
	}
}

// P14.4: what here holds and can't be is no value, where it is looked at.
func TestEvalHere(t *testing.T) {
	for _, s := range []string{"\x00", "a\xff", "\ufffe", strings.Repeat("x", api.MaxText+1)} {
		here := api.Here{Position: -3, Last: least, Name: s, Text: s, Attrs: []api.Attr{{Name: "b", Value: "ok"}, {Name: "a", Value: s}, {Name: "b", Value: s}, {Name: s, Value: s}}}
		for _, e := range []string{`@a`, `name()`, `not(@a)`, `length(name())`, `@a = 1`, `1 = name()`, `@a or 1`, `name() and 0`, `count(@a)`, `string(@a) or true()`, `contains("x", name())`} {
			fails(t, expr(t, e), here, answering(), api.ErrValue)
		}
		for e, want := range map[string]api.Value{`@b`: nodes("ok"), `@c`: nodes(), `position()`: number(-3), `last()`: number(least), `x`: nodes(), `count(@b)`: number(1), `position() < 0`: truth(true)} {
			evals(t, e, here, answering(), want)
		}
		// The first one that is wrong is told.
		fails(t, expr(t, `@a = x`), here, never(t), api.ErrValue)
		fails(t, expr(t, `x = @a`), here, func(api.Query) ([]string, api.Errno) { return nil, 77 }, 77)
	}
	// As a text, not as a name, it must be able to be.
	evals(t, `name()`, api.Here{Name: "1 é"}, never(t), text("1 é"))
	evals(t, `name()`, api.Here{}, never(t), text(""))
	most := long(api.MaxText)
	evals(t, `@a`, api.Here{Attrs: []api.Attr{{Name: "a", Value: most}}}, never(t), nodes(most))
}

// Nothing that is handed in is changed or shared, and what ask writes anywhere does not matter.
func TestEvalMemory(t *testing.T) {
	e := expr(t, `contains(a[b = 1]/c, a[2]) or @k = x | y[z]`)
	here := api.Here{Position: 1, Last: 1, Attrs: append(make([]api.Attr, 0, 4), api.Attr{Name: "k", Value: "v"})}
	before := copyExpr(e)
	list := append(make([]string, 0, 9), "u", "v")
	whole := list[:9]
	value.Eval(e, here, func(q api.Query) ([]string, api.Errno) { return list, api.OK })
	if !reflect.DeepEqual(e, before) || !slices.Equal(whole, []string{"u", "v", "", "", "", "", "", "", ""}) || !slices.Equal(here.Attrs[:4], []api.Attr{{Name: "k", Value: "v"}, {}, {}, {}}) {
		t.Error("changed")
	}
	v, _ := value.Eval(expr(t, `x`), here, answering(list...))
	w, _ := value.Eval(expr(t, `x`), here, answering(list...))
	apart(t, roomOf(v.Texts), roomOf(w.Texts), roomOf(list))
	list[0] = "w"
	if v.Texts[0] != "u" {
		t.Error("kept")
	}
	// What ask is handed is its own.
	value.Eval(e, here, func(q api.Query) ([]string, api.Errno) {
		apart(t, append(rooms(q), rooms(e)...)...)
		for i := range q.Paths {
			for k := range q.Paths[i].Steps {
				for _, p := range q.Paths[i].Steps[k].Preds {
					clear(p.Parts)
				}
				clear(q.Paths[i].Steps[k].Preds)
			}
			clear(q.Paths[i].Steps)
		}
		clear(q.Paths)
		return nil, api.OK
	})
	if !reflect.DeepEqual(e, before) {
		t.Error("what ask was handed is not its own")
	}
}

// What was handed in is gone by as it was, also if ask changes it on the way.
func TestEvalMeddled(t *testing.T) {
	for _, s := range []string{`a = b`, `a or b`, `contains(a, b) or @k = c`, `not(a) or (b and @k = "v" and c)`} {
		e := expr(t, s)
		here := api.Here{Attrs: []api.Attr{{Name: "k", Value: "v"}}}
		lists := map[string][]string{"b": {"1"}, "c": {"v"}}
		want, _ := value.Eval(copyExpr(e), api.Here{Attrs: []api.Attr{{Name: "k", Value: "v"}}}, byName(lists))
		meddle := func() {
			here.Attrs[0] = api.Attr{Name: "l", Value: "\x00"}
			var spoil func(l []api.Expr)
			spoil = func(l []api.Expr) {
				for i := range l {
					spoil(l[i].Parts)
					clear(l[i].Query.Paths)
					l[i] = api.Expr{Op: "or", Parts: l}
				}
			}
			spoil(e.Parts)
			e.Parts = nil
		}
		log := ""
		v, why := value.Eval(e, here, func(q api.Query) ([]string, api.Errno) {
			if log == "" {
				meddle()
			}
			log += q.Paths[0].Steps[0].Name
			return lists[q.Paths[0].Steps[0].Name], api.OK
		})
		if !same(v, want) || why != api.OK || !strings.HasPrefix("abc", log) {
			t.Errorf("%s: %s, %d, asked %s; want %s", s, show(v), why, log, show(want))
		}
	}
	// A list that ask uses again for its next answer.
	for s, want := range map[string]bool{`a = b`: false, `a < b`: true, `contains(b, a)`: false, `count(a) = count(b)`: true, `a != b`: true} {
		buffer := []string{"0"}
		v, why := value.Eval(expr(t, s), api.Here{}, func(q api.Query) ([]string, api.Errno) {
			buffer[0] = map[string]string{"a": "1", "b": "2"}[q.Paths[0].Steps[0].Name]
			return buffer, api.OK
		})
		if !same(v, truth(want)) || why != api.OK {
			t.Errorf("%s: %s, %d", s, show(v), why)
		}
	}
}

// ask may itself evaluate.
func TestEvalWithin(t *testing.T) {
	inner := expr(t, `count(x)`)
	outer := func(q api.Query) ([]string, api.Errno) {
		v, why := value.Eval(inner, api.Here{}, answering("a", "b"))
		s, _ := value.Text(v)
		return []string{s}, why
	}
	evals(t, `y = 2`, api.Here{}, outer, truth(true))
	if _, why := value.Eval(expr(t, `y`), api.Here{}, func(api.Query) ([]string, api.Errno) {
		_, why := value.Eval(inner, api.Here{}, nil)
		return nil, why
	}); why != api.ErrArg {
		t.Error(why)
	}
}
