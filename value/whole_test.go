package value_test

import (
	"slices"
	"strconv"
	"testing"

	"espalier/api"
	"espalier/path"
	"espalier/value"
)

// P14.4 and P14.5 by the words: what any expression answers, what is asked for it, and in which order.

// mood is how an ask answers: by the so-many-th time, and by its query.
type mood struct {
	seed  uint64
	asked []string
}

// says is what the next ask answers, or whether it panics.
func (m *mood) says(q api.Query) (list []string, why api.Errno, falls bool) {
	r := dice(m.seed + uint64(len(m.asked))*1000 + uint64(q.Paths[0].Steps[0].At))
	s, _ := path.Print(q)
	m.asked = append(m.asked, s+" at "+strconv.Itoa(q.Paths[0].Steps[0].At))
	for range r.IntN(4) {
		list = append(list, pick(r, []string{"", "0", "1", "2", "3", "x", " 2 ", "é"}))
	}
	switch r.IntN(30) {
	case 0:
		return list, pick(r, []api.Errno{api.ErrArg, api.ErrNode, 77}), false
	case 1:
		return append(list, "\x00"), api.OK, false
	case 2:
		return nil, api.OK, true
	}
	return list, api.OK, false
}

func (m *mood) ask(q api.Query) ([]string, api.Errno) {
	list, why, falls := m.says(q)
	if falls {
		panic("no")
	}
	return list, why
}

// ends is how the words give up.
type ends api.Errno

// means is what an expression answers by the words.
func (m *mood) means(e api.Expr, here api.Here) (v api.Value, why api.Errno) {
	defer func() {
		if x := recover(); x != nil {
			v, why = api.Value{}, api.Errno(x.(ends))
		}
	}()
	return m.mean(e, here), api.OK
}

func (m *mood) mean(e api.Expr, here api.Here) api.Value {
	v := m.whatever(e, here)
	if _, why := value.Text(v); why != api.OK {
		panic(ends(api.ErrValue))
	}
	return v
}

func (m *mood) whatever(e api.Expr, here api.Here) api.Value {
	switch e.Op {
	case "or":
		return truth(isTrue(m.mean(e.Parts[0], here)) || isTrue(m.mean(e.Parts[1], here)))
	case "and":
		return truth(isTrue(m.mean(e.Parts[0], here)) && isTrue(m.mean(e.Parts[1], here)))
	case "number":
		return number(e.Number)
	case "text":
		return text(e.Text)
	case "attr":
		for _, a := range here.Attrs {
			if a.Name == e.Text {
				return nodes(a.Value)
			}
		}
		return nodes()
	case "query":
		list, why, falls := m.says(e.Query)
		if falls {
			panic(ends(api.ErrPanic))
		}
		if why != api.OK {
			panic(ends(why))
		}
		return nodes(list...)
	}
	var parts []api.Value
	for _, p := range e.Parts {
		parts = append(parts, m.mean(p, here))
	}
	if e.Op == "call" {
		return answers(e.Text, here, parts)
	}
	return truth(against(e.Op, parts[0], parts[1]))
}

// anyHere is a place of which something may be wrong.
func (m *maker) anyHere() api.Here {
	here := api.Here{Position: m.IntN(4), Last: m.IntN(4), Name: pick(m.Rand, []string{"a", "", "1", "\x00"}), Text: "\xff"}
	for range m.IntN(5) {
		a := api.Attr{Name: pick(m.Rand, []string{"a", "b", "c"}), Value: pick(m.Rand, []string{"", "1", "2", "x"})}
		here.Attrs = append(here.Attrs, a)
	}
	if m.IntN(3) == 0 {
		here.Attrs = append(here.Attrs, api.Attr{Name: "bad", Value: "\xff"})
	}
	return here
}

// P14.4, P14.5: any expressions, with any answers on the way, and whatever they do not use.
func TestEvalAny(t *testing.T) {
	m := maker{Rand: dice(12)}
	kinds, failed, asked := map[int]int{}, map[api.Errno]int{}, 0
	for n := range 60000 {
		e := m.expr(1 + m.IntN(12))
		if path.Check(holder(e)) != api.OK {
			t.Fatalf("made what can't be: %s", show(e))
		}
		here := m.anyHere()
		words := &mood{seed: uint64(n)}
		want, fault := words.means(e, here)
		kinds[want.Kind]++
		failed[fault]++
		asked += len(words.asked)
		for _, e := range []api.Expr{e, litter(e)} {
			real := &mood{seed: uint64(n)}
			v, why := value.Eval(e, here, real.ask)
			if !same(v, want) || why != fault || !slices.Equal(real.asked, words.asked) {
				t.Fatalf("%s at %s: %s, %d, asked %q; want %s, %d, asked %q", written(e), show(here), show(v), why, real.asked, show(want), fault, words.asked)
			}
			real = &mood{seed: uint64(n)}
			holds := fault == api.OK && isTrue(want)
			if want.Kind == api.VNumber {
				holds = !want.None && want.Num == int64(here.Position)
			}
			if is, why := value.Holds(e, here, real.ask); is != holds || why != fault {
				t.Fatalf("%s at %s holds: %v, %d; want %v, %d", written(e), show(here), is, why, holds, fault)
			}
		}
	}
	for _, k := range []int{0, api.VBool, api.VNumber, api.VText, api.VNodes} {
		if kinds[k] < 500 {
			t.Error("too few values of a kind:", kinds)
		}
	}
	for _, why := range []api.Errno{api.OK, api.ErrArg, api.ErrNode, 77, api.ErrPanic, api.ErrValue} {
		if failed[why] < 100 {
			t.Error("too few ended so:", failed)
		}
	}
	if asked < 10000 {
		t.Error("too few were asked:", asked)
	}
}

// P14.4: an expression can be just if the query with it as its predicate can.
func TestEvalCan(t *testing.T) {
	m := maker{Rand: dice(13)}
	can, cannot := 0, 0
	for range 40000 {
		e := copyExpr(m.expr(1 + m.IntN(8)))
		m.spoil(&e)
		want := api.OK
		if path.Check(holder(e)) != api.OK {
			want = api.ErrArg
		}
		here := api.Here{Position: 1, Last: 1}
		v, why := value.Eval(e, here, answering("1"))
		if why != want || (v.Kind == 0) != (want != api.OK) {
			t.Fatalf("%s: %s, %d; want %d", show(e), show(v), why, want)
		}
		if _, why := value.Holds(e, here, answering("1")); why != want {
			t.Fatalf("%s holds: %d; want %d", show(e), why, want)
		}
		if want == api.OK {
			can++
		} else {
			cannot++
		}
	}
	if can < 5000 || cannot < 5000 {
		t.Error("too few of a kind:", can, cannot)
	}
}

// spoil changes one thing somewhere in an expression, mostly.
func (m *maker) spoil(e *api.Expr) {
	for m.IntN(3) > 0 && len(e.Parts) > 0 {
		e = &e.Parts[m.IntN(len(e.Parts))]
	}
	switch m.IntN(9) {
	case 0:
		e.Op = pick(m.Rand, []string{"", "or", "and", "call", "query", "text", "attr", "number", "=", "none"})
	case 1:
		e.Text = pick(m.Rand, []string{"", "true", "not", "1", "\x00", "'\"", "a"})
	case 2:
		e.Number = pick(m.Rand, []int64{-1, 0, 1, 999999999, 1000000000, least})
	case 3:
		e.Parts = append(e.Parts, api.Expr{Op: "number"})
	case 4:
		e.Parts = e.Parts[:len(e.Parts)/2]
	case 5:
		e.Query.Paths = append(e.Query.Paths, api.Path{Abs: m.IntN(2) == 0})
	case 6:
		if len(e.Query.Paths) > 0 && len(e.Query.Paths[0].Steps) > 0 {
			e.Query.Paths[0].Steps[0].Axis = m.IntN(14) - 1
		}
	}
}

// holdsAt: whether an expression holds by the positions from 0 to 4.
func holdsAt(t *testing.T, s string, ask asker, want ...bool) {
	t.Helper()
	for i, w := range want {
		is, why := value.Holds(expr(t, s), api.Here{Position: i, Last: 4, Name: "n"}, ask)
		if is != w || why != api.OK {
			t.Errorf("%s at %d: %v, %d; want %v", s, i, is, why, w)
		}
	}
}

// P14.5: a number holds at its place alone, all others by their truth.
func TestHolds(t *testing.T) {
	ask := byName(map[string][]string{"two": {"2"}, "pair": {"1", "1"}, "blank": {""}})
	holdsAt(t, `2`, ask, false, false, true, false, false)
	holdsAt(t, `0`, ask, true, false, false, false, false)
	holdsAt(t, `count(pair)`, ask, false, false, true, false, false)
	holdsAt(t, `sum(two)`, ask, false, false, true, false, false)
	holdsAt(t, `last()`, ask, false, false, false, false, true)
	holdsAt(t, `position()`, ask, true, true, true, true, true)
	holdsAt(t, `number("x")`, ask, false, false, false, false, false)
	holdsAt(t, `count(1)`, ask, false, false, false, false, false)
	holdsAt(t, `"2"`, ask, true, true, true, true, true)
	holdsAt(t, `""`, ask, false, false, false, false, false)
	holdsAt(t, `"0"`, ask, true, true, true, true, true)
	holdsAt(t, `two`, ask, true, true, true, true, true)
	holdsAt(t, `blank`, ask, true, true, true, true, true)
	holdsAt(t, `none`, ask, false, false, false, false, false)
	holdsAt(t, `@k`, ask, false, false, false, false, false)
	holdsAt(t, `true()`, ask, true, true, true, true, true)
	holdsAt(t, `false()`, ask, false, false, false, false, false)
	holdsAt(t, `position() = 2`, ask, false, false, true, false, false)
	holdsAt(t, `2 or 0`, ask, true, true, true, true, true)
	holdsAt(t, `name()`, ask, true, true, true, true, true)
	for n, at := range map[string]int{`-3`: -3, `-9223372036854775808`: least, `9223372036854775807`: greatest} {
		for _, p := range []int{-3, least, greatest, 0} {
			is, why := value.Holds(expr(t, `number("`+n+`")`), api.Here{Position: p}, ask)
			if is != (p == at) || why != api.OK {
				t.Errorf("%s at %d: %v, %d", n, p, is, why)
			}
		}
	}
}

// What is answered hangs on the arguments alone.
func TestAgain(t *testing.T) {
	m := maker{Rand: dice(14)}
	for n := range 300 {
		e, here := m.expr(9), m.anyHere()
		v, why := value.Eval(e, here, (&mood{seed: uint64(n)}).ask)
		w, again := value.Eval(copyExpr(e), here, (&mood{seed: uint64(n)}).ask)
		if !same(v, w) || why != again {
			t.Fatalf("%s: %s, %d, then %s, %d", written(e), show(v), why, show(w), again)
		}
	}
}
