package path_test

import (
	"slices"
	"testing"

	"espalier/api"
	"espalier/path"
)

// read is a query by its text.
func read(t *testing.T, s string) api.Query {
	t.Helper()
	q, at, e := path.Parse(s)
	if e != api.OK {
		t.Fatal(s, at, e)
	}
	return q
}

// P13.3: names, rising, each once.
func TestNames(t *testing.T) {
	for s, want := range map[string][]string{
		"a": {"a"}, "/": nil, "*": nil, "..": nil, "text()/node()": nil, "a/b": {"a", "b"}, "b/a": {"a", "b"}, "a/a//a": {"a"}, "a | a": {"a"}, "c | b//a": {"a", "b", "c"},
		"descendant::d/self::c": {"c", "d"}, "b/a[c and .//d]": {"a", "b", "c", "d"}, "*[b]": {"b"}, "a[@b]": {"a"}, "a['b']": {"a"}, "a[1]": {"a"}, "a[not(b)]": {"a", "b"}, "a[true()]": {"a"}, "a[starts(z, y)]": {"a", "y", "z"},
		"a[b = c or d and e[f/g[h]] | i]": {"a", "b", "c", "d", "e", "f", "g", "h", "i"}, "a[1][b][c]": {"a", "b", "c"}, "b[a]/B/_[b]/Ab": {"Ab", "B", "_", "a", "b"}, "or[and or text]": {"and", "or", "text"}, "a[(((b)))]": {"a", "b"}, "a[@b = 'c' or count(d | /e) > 1]": {"a", "d", "e"},
	} {
		q := read(t, s)
		if l := path.Names(q); !slices.Equal(l, want) {
			t.Errorf("Names(%s): %q; want %q", s, l, want)
		}
		if l := path.Names(junk(q)); !slices.Equal(l, want) {
			t.Errorf("Names(%s) with what plays no part: %q; want %q", s, l, want)
		}
	}
}

// P13.3: whether nothing leads out.
func TestLocal(t *testing.T) {
	for s, want := range map[string]bool{
		"a": true, ".": true, "*": true, "text()": true, "node()": true, "a/b//c": true, "descendant::a": true, "descendant-or-self::a": true, "self::a": true, "child::a": true, "a | .//b | self::node()[1]": true,
		"/": false, "/a": false, "//a": false, "a | /": false, "a | /b": false, "/ | a": false, "..": false, "a/..": false, "../a": false, "a | ..": false,
		"parent::a": false, "ancestor::a": false, "ancestor-or-self::a": false, "following::a": false, "preceding::a": false, "following-sibling::a": false, "preceding-sibling::a": false,
		"a[b]": true, "a[../b]": false, "a[/b]": false, "a[/]": false, "a[b | ..]": false, "a[b[c[..]]]": false, "a[b[c[d]]]": true, "a[1][..]": false, "a/b[..]": false, "a[1 = ..]": false, "a[.. = 1]": false, "a[1 or ..]": false, "a[1 and (2 or //b)]": false, "a[not(..)]": false, "a[starts(b, ..)]": false, "a[starts(/, b)]": false,
		"a[position() = last()]": true, "a[@b = '/' or name() != '..']": true, "a[not(b) and count(.//c) >= 2]": true, "a[sum(b/following-sibling::c) = 0]": false, "parent[self]": true,
	} {
		q := read(t, s)
		if path.Local(q) != want {
			t.Errorf("Local(%s): %t", s, !want)
		}
		if path.Local(junk(q)) != want {
			t.Errorf("Local(%s) with what plays no part: %t", s, !want)
		}
	}
}

// P13.3: any query, held against a look at all that it holds.
func TestLooksAny(t *testing.T) {
	m := newMaker(30)
	local := 0
	for range 5000 {
		q := m.query(1 + m.IntN(12))
		if m.IntN(2) == 0 {
			m.stay(q)
		}
		names, stays := allOf(q)
		if l := path.Names(q); !slices.Equal(l, names) {
			t.Fatalf("Names(%s): %q; want %q", show(q), l, names)
		}
		if path.Local(q) != stays {
			t.Fatalf("Local(%s): %t", show(q), !stays)
		}
		if stays {
			local++
		}
	}
	if local < 1000 || local > 4500 {
		t.Error(local)
	}
}

// allOf is the names in a query, and whether nothing leads out, by lists of what is still to be looked at.
func allOf(q api.Query) (names []string, stays bool) {
	stays = true
	work := []api.Query{q}
	for len(work) > 0 {
		var exprs []api.Expr
		for _, p := range work[0].Paths {
			stays = stays && !p.Abs
			for _, s := range p.Steps {
				stays = stays && (s.Axis <= 3 || s.Axis == 11)
				exprs = append(exprs, s.Preds...)
				if s.Test == 1 && !slices.Contains(names, s.Name) {
					names = append(names, s.Name)
				}
			}
		}
		work = work[1:]
		for len(exprs) > 0 {
			exprs, work = append(exprs[1:], exprs[0].Parts...), append(work, exprs[0].Query)
		}
	}
	slices.Sort(names)
	return names, stays
}

// stay makes most paths of a query such as lead nowhere out.
func (m *maker) stay(q api.Query) {
	for i := range q.Paths {
		p := &q.Paths[i]
		if len(p.Steps) > 0 {
			p.Abs = false
		}
		for k := range p.Steps {
			p.Steps[k].Axis = pick(m, []int{1, 2, 3, 11})
			m.stayExprs(p.Steps[k].Preds)
		}
	}
}

func (m *maker) stayExprs(l []api.Expr) {
	for i := range l {
		m.stay(l[i].Query)
		m.stayExprs(l[i].Parts)
	}
}

// What is handed in stays as it is, its spare room too, and no answer shares memory with another one.
func TestLooksMemory(t *testing.T) {
	m := newMaker(31)
	for range 500 {
		q := copyOf(m.query(20))
		was := copyOf(q)
		path.Check(q)
		path.Print(q)
		path.Local(q)
		a, b := path.Names(q), path.Names(q)
		if !same(whole(q), whole(was)) {
			t.Fatal("changed:", show(was))
		}
		if cap(a) > 0 && roomOf(a) == roomOf(b) {
			t.Fatal("two lists share memory")
		}
	}
}

// whole is a query with the spare room of its lists.
func whole(q api.Query) api.Query {
	q.Paths = slices.Clone(q.Paths[:cap(q.Paths)])
	for i := range q.Paths {
		p := &q.Paths[i]
		p.Steps = slices.Clone(p.Steps[:cap(p.Steps)])
		for k := range p.Steps {
			p.Steps[k].Preds = wholeExprs(p.Steps[k].Preds)
		}
	}
	return q
}

func wholeExprs(l []api.Expr) []api.Expr {
	l = slices.Clone(l[:cap(l)])
	for i := range l {
		l[i].Parts = wholeExprs(l[i].Parts)
		l[i].Query = whole(l[i].Query)
	}
	return l
}
