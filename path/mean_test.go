package path_test

import (
	"slices"
	"strconv"
	"strings"
	"testing"

	"espalier/api"
	"espalier/path"
)

// What a query means (13.2) and what its expressions come to (14), by the words, on a document that is a list of nodes in document order; number 0 is the document itself.
type world []thing

type thing struct {
	api.Tree
	parent, end int // end: the number behind the last one within
}

// grow puts a forest behind the others, under a parent.
func (w world) grow(f []api.Tree, parent int) world {
	for _, x := range f {
		at := len(w)
		w = append(w, thing{x, parent, 0})
		w = w.grow(x.Kids, at)
		w[at].end = len(w)
	}
	return w
}

func newWorld(f []api.Tree) world {
	w := world{{end: 0, parent: -1}}.grow(f, 0)
	w[0].end = len(w)
	return w
}

// lies tells whether a place b is on an axis of a place a.
func (w world) lies(axis, b, a int) bool {
	within := func(x, y int) bool { return x > y && x < w[y].end }
	switch axis {
	case 1:
		return w[b].parent == a
	case 2:
		return within(b, a)
	case 3:
		return b == a || within(b, a)
	case 4:
		return w[a].parent == b
	case 5:
		return within(a, b)
	case 6:
		return a == b || within(a, b)
	case 7:
		return a > 0 && b >= w[a].end
	case 8:
		return b > 0 && b < a && !within(a, b)
	case 9, 10:
		return a > 0 && b > 0 && w[a].parent == w[b].parent && (axis == 9 && b > a || axis == 10 && b < a)
	}
	return a == b
}

func (w world) passes(s api.Step, b int) bool {
	switch s.Test {
	case 1:
		return w[b].Kind == api.Element && w[b].Name == s.Name
	case 2:
		return w[b].Kind == api.Element
	case 3:
		return w[b].Kind == api.Text
	}
	return b > 0 || slices.Contains([]int{3, 4, 5, 6, 11}, s.Axis)
}

// from is what a step leads to from a place.
func (w world) from(a int, s api.Step) []int {
	var l []int
	for b := range w {
		if w.lies(s.Axis, b, a) && w.passes(s, b) {
			l = append(l, b)
		}
	}
	if slices.Contains([]int{4, 5, 6, 8, 10}, s.Axis) {
		slices.Reverse(l)
	}
	for _, e := range s.Preds {
		var kept []int
		for i, b := range l {
			if w.holds(e, spot{b, i + 1, len(l)}) {
				kept = append(kept, b)
			}
		}
		l = kept
	}
	return l
}

// ask is the nodes to which a query leads.
func (w world) ask(a int, q api.Query) []int {
	var all []int
	for _, p := range q.Paths {
		places := []int{a}
		if p.Abs {
			places = []int{0}
		}
		for _, s := range p.Steps {
			var next []int
			for _, x := range places {
				next = append(next, w.from(x, s)...)
			}
			slices.Sort(next)
			places = slices.Compact(next)
		}
		all = append(all, places...)
	}
	slices.Sort(all)
	return slices.DeleteFunc(slices.Compact(all), func(x int) bool { return x == 0 })
}

// spot is where an expression is asked.
type spot struct{ place, position, last int }

// worth is a value: a truth, a number (or none), a text, or nodes by their texts.
type worth struct {
	kind int
	is   bool
	n    int64
	none bool
	s    string
	l    []string
}

func (w world) text(a int) string {
	s := ""
	for b := a; b < max(w[a].end, a+1) && b < len(w); b++ {
		s += w[b].Text
	}
	return s
}

func (v worth) truth() bool {
	switch v.kind {
	case api.VBool:
		return v.is
	case api.VNumber:
		return !v.none && v.n != 0
	case api.VText:
		return v.s != ""
	}
	return len(v.l) > 0
}

func (v worth) string() string {
	switch {
	case v.kind == api.VBool:
		return strconv.FormatBool(v.is)
	case v.kind == api.VNumber && v.none:
		return "NaN"
	case v.kind == api.VNumber:
		return strconv.FormatInt(v.n, 10)
	case v.kind == api.VNodes && len(v.l) > 0:
		return v.l[0]
	}
	return v.s
}

func (v worth) number() worth {
	if v.kind == api.VNumber {
		return v
	}
	if v.kind == api.VBool {
		return worth{kind: api.VNumber, n: map[bool]int64{true: 1}[v.is]}
	}
	n, err := strconv.ParseInt(strings.Trim(v.string(), "\t\n\r "), 10, 64)
	return worth{kind: api.VNumber, n: n, none: err != nil || strings.Contains(v.string(), "+")}
}

func (w world) holds(e api.Expr, x spot) bool {
	v := w.value(e, x)
	if v.kind == api.VNumber {
		return !v.none && v.n == int64(x.position)
	}
	return v.truth()
}

func truth(b bool) worth { return worth{kind: api.VBool, is: b} }

func num(n int) worth { return worth{kind: api.VNumber, n: int64(n)} }

func words(s string) worth { return worth{kind: api.VText, s: s} }

func (w world) value(e api.Expr, x spot) worth {
	switch e.Op {
	case "or":
		return truth(w.value(e.Parts[0], x).truth() || w.value(e.Parts[1], x).truth())
	case "and":
		return truth(w.value(e.Parts[0], x).truth() && w.value(e.Parts[1], x).truth())
	case "number":
		return num(int(e.Number))
	case "text":
		return words(e.Text)
	case "attr":
		v := worth{kind: api.VNodes}
		for _, a := range w[x.place].Attrs {
			if a.Name == e.Text {
				v.l = append(v.l, a.Value)
			}
		}
		return v
	case "query":
		v := worth{kind: api.VNodes}
		for _, n := range w.ask(x.place, e.Query) {
			v.l = append(v.l, w.text(n))
		}
		return v
	case "call":
		return w.call(e, x)
	}
	return truth(against(e.Op, w.value(e.Parts[0], x), w.value(e.Parts[1], x)))
}

// against holds two values against each other.
func against(op string, a, b worth) bool {
	if a.kind == api.VNodes && b.kind == api.VBool {
		a = truth(a.truth())
	}
	if b.kind == api.VNodes && a.kind == api.VBool {
		b = truth(b.truth())
	}
	switch {
	case a.kind == api.VNodes:
		return slices.ContainsFunc(a.l, func(s string) bool { return against(op, words(s), b) })
	case b.kind == api.VNodes:
		return slices.ContainsFunc(b.l, func(s string) bool { return against(op, a, words(s)) })
	}
	x, y := a.number(), b.number()
	none := x.none || y.none
	equal := !none && x.n == y.n
	switch {
	case a.kind == api.VBool || b.kind == api.VBool:
		equal = a.truth() == b.truth()
	case a.kind == api.VText && b.kind == api.VText:
		equal = a.s == b.s
	}
	switch op {
	case "=":
		return equal
	case "!=":
		return !equal
	case "<":
		return !none && x.n < y.n
	case "<=":
		return !none && x.n <= y.n
	case ">":
		return !none && x.n > y.n
	}
	return !none && x.n >= y.n
}

func (w world) call(e api.Expr, x spot) worth {
	var v []worth
	for _, p := range e.Parts {
		v = append(v, w.value(p, x))
	}
	switch e.Text {
	case "true", "false":
		return truth(e.Text == "true")
	case "position":
		return num(x.position)
	case "last":
		return num(x.last)
	case "name":
		return words(w[x.place].Name)
	case "not":
		return truth(!v[0].truth())
	case "count":
		return worth{kind: api.VNumber, n: int64(len(v[0].l)), none: v[0].kind != api.VNodes}
	case "string":
		return words(v[0].string())
	case "length":
		return num(len([]rune(v[0].string())))
	case "number":
		return v[0].number()
	case "contains":
		return truth(strings.Contains(v[0].string(), v[1].string()))
	case "starts":
		return truth(strings.HasPrefix(v[0].string(), v[1].string()))
	}
	sum := worth{kind: api.VNumber, none: v[0].kind != api.VNodes}
	for _, s := range v[0].l {
		n := words(s).number()
		sum.n, sum.none = sum.n+n.n, sum.none || n.none
	}
	return sum
}

// forest is a forest of few names.
func (m *maker) forest(most, deep int) []api.Tree {
	var l []api.Tree
	for range m.IntN(most + 1) {
		if m.IntN(3) == 0 {
			l = append(l, api.Tree{Kind: api.Text, Text: pick(m, []string{"1", "2", "x", ""})})
			continue
		}
		l = append(l, m.element(most, deep))
	}
	return l
}

func (m *maker) element(most, deep int) api.Tree {
	x := api.Tree{Kind: api.Element, Name: pick(m, []string{"a", "b"})}
	if m.IntN(2) == 0 {
		x.Attrs = []api.Attr{{Name: "a", Value: pick(m, []string{"1", "x"})}}
	}
	if deep > 0 {
		x.Kids = m.forest(most, deep-1)
	}
	return x
}

// around puts a tree anywhere into a new forest: that, and which node it is.
func (m *maker) around(x api.Tree) (world, int) {
	const mark = "\x00"
	marked := x
	marked.Name = mark
	f := m.put(m.forest(3, 2), marked, m.IntN(4))
	w := newWorld(f)
	at := slices.IndexFunc(w, func(n thing) bool { return n.Name == mark })
	w[at].Name = x.Name
	return w, at
}

func (m *maker) put(f []api.Tree, x api.Tree, deep int) []api.Tree {
	if deep > 0 {
		y := m.element(2, 1)
		y.Kids = m.put(y.Kids, x, deep-1)
		x = y
	}
	return slices.Insert(f, m.IntN(len(f)+1), x)
}

// rename leaves few names in a query, so that it leads to something.
func (m *maker) rename(q api.Query) {
	for _, p := range q.Paths {
		for k := range p.Steps {
			if p.Steps[k].Test == api.TestName {
				p.Steps[k].Name = pick(m, []string{"a", "b"})
			}
			m.renameExprs(p.Steps[k].Preds)
		}
	}
}

func (m *maker) renameExprs(l []api.Expr) {
	for i := range l {
		if l[i].Op == "attr" {
			l[i].Text = "a"
		}
		m.rename(l[i].Query)
		m.renameExprs(l[i].Parts)
	}
}

// answers is what a query leads to from a node, told by how far they are behind it.
func (w world) answers(at int, q api.Query) []int {
	l := w.ask(at, q)
	for i := range l {
		l[i] -= at
	}
	return l
}

// P13.5: a query that is Local answers the same of a node, whatever stands outside of it.
func TestLocalMeans(t *testing.T) {
	m := newMaker(40)
	stays, some, other := 0, 0, 0
	for range 20000 {
		q := m.query(1 + m.IntN(8))
		m.rename(q)
		if m.IntN(2) == 0 {
			m.stay(q)
		}
		x := m.element(3, 2)
		w, at := m.around(x)
		first := w.answers(at, q)
		differs := false
		for range 4 {
			w, at := m.around(x)
			differs = differs || !slices.Equal(w.answers(at, q), first)
		}
		local := path.Local(q)
		switch {
		case local && differs:
			s, _ := path.Print(q)
			t.Fatalf("%s of %v hangs on what stands outside", s, x)
		case local:
			stays++
			if len(first) > 0 {
				some++
			}
			if slices.ContainsFunc(first, func(n int) bool { return n < 0 || n >= w[at].end-at }) {
				t.Fatalf("%s leads out", show(q))
			}
		case differs:
			other++
		}
	}
	if stays < 5000 || some < 2000 || other < 2000 {
		t.Error(stays, some, other)
	}
}

// P13.5: each way out is one: there is a document in which what stands outside tells.
func TestNotLocalMeans(t *testing.T) {
	el := func(name string, kids ...api.Tree) api.Tree {
		return api.Tree{Kind: api.Element, Name: name, Kids: kids}
	}
	x := el("x", el("a"), el("b"))
	alone, lone := newWorld([]api.Tree{x}), 1
	among := newWorld([]api.Tree{el("a", el("a"), x, el("b")), el("b")})
	at := slices.IndexFunc(among, func(n thing) bool { return n.Name == "x" })
	for _, s := range []string{"/a", "//a", "/x/b | a", "..", "parent::*", "ancestor::a", "ancestor-or-self::*", "following::b", "preceding::a", "following-sibling::*", "preceding-sibling::node()", "a[..][/a]", "b[ancestor::a]", "a | ../b", "b[count(//b) = 1]", "*[not(following::b[2])]"} {
		q := read(t, s)
		if slices.Equal(alone.answers(lone, q), among.answers(at, q)) {
			t.Errorf("%s answers the same", s)
		}
		if path.Local(q) {
			t.Errorf("Local(%s)", s)
		}
	}
	for _, s := range []string{"a", "*", "self::x", ".", "descendant::b", "descendant-or-self::*", ".//a | b", "self::*[count(.//*) = 2]", "*[last()]"} {
		q := read(t, s)
		if l := alone.answers(lone, q); len(l) == 0 || !slices.Equal(l, among.answers(at, q)) {
			t.Errorf("%s answers other things, or none", s)
		}
		if !path.Local(q) {
			t.Errorf("not Local(%s)", s)
		}
	}
}
