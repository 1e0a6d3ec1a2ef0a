package path_test

import (
	"fmt"
	"math/rand/v2"
	"slices"
	"strings"
	"testing"
	"unsafe"

	"espalier/api"
	"espalier/path"
)

func dice(seed uint64) *rand.Rand { return rand.New(rand.NewPCG(seed, 13)) }

// The short forms by which tests tell queries: at is where a thing stands in its text.

func query(paths ...api.Path) api.Query { return api.Query{Paths: paths} }

func rel(at int, steps ...api.Step) api.Path { return api.Path{Steps: steps, At: at} }

func abs(at int, steps ...api.Step) api.Path { return api.Path{Abs: true, Steps: steps, At: at} }

func step(at, axis, test int, preds ...api.Expr) api.Step {
	return api.Step{Axis: axis, Test: test, Preds: preds, At: at}
}

func child(at int, name string, preds ...api.Expr) api.Step {
	s := step(at, api.ChildAxis, api.TestName, preds...)
	s.Name = name
	return s
}

func anywhere(at int) api.Step { return step(at, api.DescendantOrSelfAxis, api.TestNode) }

func both(at int, op string, left, right api.Expr) api.Expr {
	return api.Expr{Op: op, At: at, Parts: []api.Expr{left, right}}
}

func number(at int, n int64) api.Expr { return api.Expr{Op: "number", At: at, Number: n} }

func text(at int, s string) api.Expr { return api.Expr{Op: "text", At: at, Text: s} }

func attr(at int, s string) api.Expr { return api.Expr{Op: "attr", At: at, Text: s} }

func call(at int, name string, parts ...api.Expr) api.Expr {
	return api.Expr{Op: "call", At: at, Text: name, Parts: parts}
}

func asks(at int, paths ...api.Path) api.Expr {
	return api.Expr{Op: "query", At: at, Query: query(paths...)}
}

// named is the query of one name.
func named(at int, name string) api.Expr { return asks(at, rel(at, child(at, name))) }

// slash is the path without steps.
func slash() api.Expr { return asks(0, abs(0)) }

// holding is a query with an expression in a predicate.
func holding(e api.Expr) api.Query { return query(rel(0, child(0, "a", e))) }

// show is a query for people, if it is long only its beginning.
func show(q api.Query) string { return fmt.Sprintf("%.400s", fmt.Sprintf("%+v", q)) }

func long(n int) string { return strings.Repeat("x", n) }

func isSign(op string) bool { return slices.Contains([]string{"=", "!=", "<", "<=", ">", ">="}, op) }

func usesParts(op string) bool { return op == "or" || op == "and" || op == "call" || isSign(op) }

// same holds two queries against each other, all fields; nil and empty lists are alike.
func same(a, b api.Query) bool { return slices.EqualFunc(a.Paths, b.Paths, samePath) }

func samePath(a, b api.Path) bool {
	return a.Abs == b.Abs && a.At == b.At && slices.EqualFunc(a.Steps, b.Steps, sameStep)
}

func sameStep(a, b api.Step) bool {
	return a.Axis == b.Axis && a.Test == b.Test && a.Name == b.Name && a.At == b.At && slices.EqualFunc(a.Preds, b.Preds, sameExpr)
}

func sameExpr(a, b api.Expr) bool {
	return a.Op == b.Op && a.At == b.At && a.Text == b.Text && a.Number == b.Number && slices.EqualFunc(a.Parts, b.Parts, sameExpr) && same(a.Query, b.Query)
}

// clear is a query in memory of its own, without its places and what plays no part.
func clear(q api.Query) api.Query {
	var out api.Query
	for _, p := range q.Paths {
		x := api.Path{Abs: p.Abs}
		for _, s := range p.Steps {
			x.Steps = append(x.Steps, api.Step{Axis: s.Axis, Test: s.Test, Name: s.Name, Preds: clearExprs(s.Preds)})
		}
		out.Paths = append(out.Paths, x)
	}
	return out
}

func clearExprs(l []api.Expr) []api.Expr {
	var out []api.Expr
	for _, e := range l {
		x := api.Expr{Op: e.Op}
		switch {
		case e.Op == "number":
			x.Number = e.Number
		case e.Op == "query":
			x.Query = clear(e.Query)
		}
		if e.Op == "text" || e.Op == "attr" || e.Op == "call" {
			x.Text = e.Text
		}
		if usesParts(e.Op) {
			x.Parts = clearExprs(e.Parts)
		}
		out = append(out, x)
	}
	return out
}

// copyOf is a query in memory of its own, with all that it holds and with spare room.
func copyOf(q api.Query) api.Query {
	l := append(make([]api.Path, 0, len(q.Paths)+1), q.Paths...)
	for i := range l {
		l[i].Steps = append(make([]api.Step, 0, len(l[i].Steps)+1), l[i].Steps...)
		for k := range l[i].Steps {
			l[i].Steps[k].Preds = copyExprs(l[i].Steps[k].Preds)
		}
	}
	return api.Query{Paths: l}
}

func copyExprs(l []api.Expr) []api.Expr {
	l = append(make([]api.Expr, 0, len(l)+1), l...)
	for i := range l {
		l[i].Parts = copyExprs(l[i].Parts)
		l[i].Query = copyOf(l[i].Query)
	}
	return l
}

// room is where a list lies, its spare room too.
type room struct{ from, to uintptr }

func roomOf[T any](l []T) room {
	var one T
	from := uintptr(unsafe.Pointer(unsafe.SliceData(l)))
	return room{from, from + uintptr(cap(l))*unsafe.Sizeof(one)}
}

func rooms(q api.Query) []room {
	all := []room{roomOf(q.Paths)}
	for _, p := range q.Paths {
		all = append(all, roomOf(p.Steps))
		for _, s := range p.Steps {
			all = append(all, exprRooms(s.Preds)...)
		}
	}
	return all
}

func exprRooms(l []api.Expr) []room {
	all := []room{roomOf(l)}
	for _, e := range l {
		all = append(all, exprRooms(e.Parts)...)
		all = append(all, rooms(e.Query)...)
	}
	return all
}

// apart: no two lists of these queries share memory.
func apart(t *testing.T, list ...api.Query) {
	t.Helper()
	var all []room
	for _, q := range list {
		all = append(all, rooms(q)...)
	}
	all = slices.DeleteFunc(all, func(r room) bool { return r.from == r.to })
	slices.SortFunc(all, func(a, b room) int {
		if a.from < b.from {
			return -1
		}
		return 1
	})
	for i := 1; i < len(all); i++ {
		if all[i].from < all[i-1].to {
			t.Fatal("two lists share memory")
		}
	}
}

// reads: Parse answers so.
func reads(t *testing.T, s string, want api.Query) {
	t.Helper()
	if q, at, e := path.Parse(s); e != api.OK || at != 0 || !same(q, want) {
		t.Errorf("Parse(%.200q): %s, %d, %d; want %s", s, show(q), at, e, show(want))
	}
}

// refuses: Parse answers this place and error, and no query.
func refuses(t *testing.T, s string, place int, why api.Errno) {
	t.Helper()
	if q, at, e := path.Parse(s); len(q.Paths) != 0 || at != place || e != why {
		t.Errorf("Parse(%.200q): %s, %d, %d; want %d, %d", s, show(q), at, e, place, why)
	}
}

// prints: the query can be, and Print answers so.
func prints(t *testing.T, q api.Query, want string) {
	t.Helper()
	if s, e := path.Print(q); e != api.OK || s != want {
		t.Errorf("Print(%s): %.200q, %d; want %.200q", show(q), s, e, want)
	}
	if e := path.Check(q); e != api.OK {
		t.Errorf("Check(%s): %d", show(q), e)
	}
}

// cannot: the query can't be, as all calls tell.
func cannot(t *testing.T, q api.Query, what string) {
	t.Helper()
	if e := path.Check(q); e != api.ErrArg {
		t.Errorf("%s: Check: %d", what, e)
	}
	if s, e := path.Print(q); e != api.ErrArg || s != "" {
		t.Errorf("%s: Print: %q, %d", what, s, e)
	}
	if l := path.Names(q); len(l) != 0 {
		t.Errorf("%s: Names: %v", what, l)
	}
	if path.Local(q) {
		t.Errorf("%s: Local", what)
	}
}

// can: the query can be.
func can(t *testing.T, q api.Query, what string) {
	t.Helper()
	if e := path.Check(q); e != api.OK {
		t.Errorf("%s: Check: %d", what, e)
	}
	if s, e := path.Print(q); e != api.OK || s == "" {
		t.Errorf("%s: Print: %q, %d", what, s, e)
	}
}
