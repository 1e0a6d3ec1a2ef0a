package names_test

import (
	"math/rand/v2"
	"slices"
	"strings"
	"testing"

	"espalier/api"
	"espalier/label"
	"espalier/names"
)

func el(name string, kids ...api.Tree) api.Tree {
	return api.Tree{Kind: api.Element, Name: name, Kids: kids}
}

// with is an element with attributes: names and values by turns.
func with(x api.Tree, words ...string) api.Tree {
	for i := 0; i < len(words); i += 2 {
		x.Attrs = append(x.Attrs, api.Attr{Name: words[i], Value: words[i+1]})
	}
	return x
}

func text(s string) api.Tree { return api.Tree{Kind: api.Text, Text: s} }

// hd is the handle of an index and a generation, by the document's words.
func hd(index, gen uint64) api.Handle { return api.Handle(gen*(1<<32) + index) }

// chain is so many elements, one in the other.
func chain(n int) api.Tree {
	x := el("c")
	for range n - 1 {
		x = el("c", x)
	}
	return x
}

// wide is an element with so many others in it, n nodes in all.
func wide(n int) api.Tree {
	x := el("w")
	for range n - 1 {
		x.Kids = append(x.Kids, el("v"))
	}
	return x
}

func long(n int) string { return strings.Repeat("x", n) }

func dice(seed uint64) *rand.Rand { return rand.New(rand.NewPCG(seed, 8)) }

func newIndex(t *testing.T, x api.Image) *names.Index {
	t.Helper()
	i, e := names.New(x)
	if i == nil || e != api.OK {
		t.Fatalf("New: %v, %d", i, e)
	}
	return i
}

func insert(t *testing.T, x *names.Index, where int, at api.Handle, y api.Tree) api.Handle {
	t.Helper()
	n, e := x.Insert(where, at, y)
	if e != api.OK || n == 0 {
		t.Fatalf("Insert(%d, %x): %x, %d", where, at, n, e)
	}
	return n
}

func answers(t *testing.T, what string, got, want api.Errno) {
	t.Helper()
	if got != want {
		t.Errorf("%s: %d; want %d", what, got, want)
	}
}

// abc is <a k="1"><b/>x<b k="1" l="2"><c>y</c></b><d l="1"/></a>z<b k="2"/>; its handles are of the indexes 1 to 9.
func abc(t *testing.T) *names.Index {
	t.Helper()
	x := newIndex(t, api.Image{})
	insert(t, x, api.Last, 0, with(el("a", el("b"), text("x"), with(el("b", el("c", text("y"))), "k", "1", "l", "2"), with(el("d"), "l", "1")), "k", "1"))
	insert(t, x, api.Last, 0, text("z"))
	insert(t, x, api.Last, 0, with(el("b"), "k", "2"))
	return x
}

// The handles of abc.
const (
	ha = api.Handle(1<<32 + 1 + iota)
	hb1
	hx
	hb2
	hc
	hy
	hdd
	hz
	hb3
)

// noNodes: handles of no node of abc.
func noNodes() []api.Handle {
	return []api.Handle{0, 1, 2, hd(1, 2), hd(0, 1), hd(10, 1), hd(9, 2), hd(api.MaxNodes, 1), hd(api.MaxNodes+1, 1), hd(1<<31, 1), hd(1<<32-1, 1), hd(0, 1<<32-1), hd(1<<32-1, 1<<32-1)}
}

// noNames: texts that are no names, but the empty one.
func noNames() []string {
	return []string{"1", "-a", ".", " ", "a b", "a<", "\x00", "\xff", "a\xff", long(api.MaxName + 1), long(1 << 12), "*"}
}

func handles(l []api.Placed) []api.Handle {
	var out []api.Handle
	for _, p := range l {
		out = append(out, p.Node)
	}
	return out
}

func tells(t *testing.T, what string, got []api.Placed, want ...api.Handle) {
	t.Helper()
	if !slices.Equal(handles(got), want) {
		t.Errorf("%s: %x; want %x", what, handles(got), want)
	}
}

// sight is a document as it stands, gone through node by node.
type sight struct {
	all   []api.Placed
	nodes map[api.Handle]api.Tree
	in    map[api.Handle][]api.Handle // what lies within a node, in document order
}

func see(d *label.Doc) sight {
	tree := d.Tree()
	s := sight{all: d.Spans(), nodes: map[api.Handle]api.Tree{}, in: map[api.Handle][]api.Handle{}}
	for _, p := range s.all {
		s.nodes[p.Node], _ = tree.Get(p.Node)
		all, _ := tree.All(p.Node)
		s.in[p.Node] = all[1:]
	}
	return s
}

// those is the nodes of which a test holds.
func (s sight) those(test func(t api.Tree) bool) []api.Placed {
	var l []api.Placed
	for _, p := range s.all {
		if test(s.nodes[p.Node]) {
			l = append(l, p)
		}
	}
	return l
}

func isText(t api.Tree) bool { return t.Kind == api.Text }

// isNamed is whether a node is an element of a name (empty: of any).
func isNamed(name string) func(t api.Tree) bool {
	return func(t api.Tree) bool { return t.Kind == api.Element && (name == "" || t.Name == name) }
}

func has(attr string) func(t api.Tree) bool {
	return func(t api.Tree) bool {
		for _, a := range t.Attrs {
			if a.Name == attr {
				return true
			}
		}
		return false
	}
}

func hasValue(attr, value string) func(t api.Tree) bool {
	return func(t api.Tree) bool {
		for _, a := range t.Attrs {
			if a.Name == attr && a.Value == value {
				return true
			}
		}
		return false
	}
}

// words is the names of all elements, those of all attributes, and their values, each as often as it is there.
func (s sight) words() (elements, attrs, values []string) {
	for _, p := range s.all {
		t := s.nodes[p.Node]
		if t.Kind == api.Element {
			elements = append(elements, t.Name)
		}
		for _, a := range t.Attrs {
			attrs, values = append(attrs, a.Name), append(values, a.Value)
		}
	}
	return elements, attrs, values
}

// each is every text of a list once, and some besides.
func each(l []string, others ...string) []string {
	l = append(slices.Clone(l), others...)
	slices.Sort(l)
	return slices.Compact(l)
}

func sameSlot(a, b api.Slot) bool {
	return a.Gen == b.Gen && a.Live == b.Live && a.Kind == b.Kind && a.Name == b.Name && slices.Equal(a.Attrs, b.Attrs) && a.Text == b.Text && a.Parent == b.Parent && slices.Equal(a.Kids, b.Kids)
}

func sameImage(a, b api.Image) bool {
	return slices.EqualFunc(a.Slots, b.Slots, sameSlot) && slices.Equal(a.Roots, b.Roots)
}

// holds: all that the chapter says of an index, of the document as it stands (P8.2, P8.3, P8.6, P8.7).
func holds(t *testing.T, x *names.Index) {
	t.Helper()
	s := see(x.Doc())
	listsHold(t, x, s)
	namesHold(t, x, s)
	elements, _, _ := s.words()
	for _, name := range each(elements, "", "nobody") {
		for i, p := range s.all {
			nearHolds(t, x, s, name, i, p)
		}
	}
}

func listsHold(t *testing.T, x *names.Index, s sight) {
	t.Helper()
	elements, attrs, values := s.words()
	if got, want := x.Texts(), s.those(isText); !slices.Equal(got, want) {
		t.Fatalf("Texts: %v; want %v", got, want)
	}
	for _, name := range each(elements, "nobody") {
		if got, want := x.Named(name), s.those(isNamed(name)); !slices.Equal(got, want) {
			t.Fatalf("Named(%q): %v; want %v", name, got, want)
		}
	}
	for _, attr := range each(attrs, "nobody") {
		if got, want := x.Having(attr), s.those(has(attr)); !slices.Equal(got, want) {
			t.Fatalf("Having(%q): %v; want %v", attr, got, want)
		}
		for _, value := range each(values, "nothing") {
			if got, want := x.Valued(attr, value), s.those(hasValue(attr, value)); !slices.Equal(got, want) {
				t.Fatalf("Valued(%q, %q): %v; want %v", attr, value, got, want)
			}
		}
	}
	for _, l := range [][]api.Placed{x.Named(""), x.Having(""), x.Valued("", "")} {
		if len(l) != 0 {
			t.Fatalf("of the empty name: %v", l)
		}
	}
}

func namesHold(t *testing.T, x *names.Index, s sight) {
	t.Helper()
	elements, _, _ := s.words()
	var want []api.Named
	for _, name := range each(elements) {
		want = append(want, api.Named{Name: name, N: len(s.those(isNamed(name)))})
	}
	if got := x.Names(); !slices.Equal(got, want) {
		t.Fatalf("Names: %v; want %v", got, want)
	}
}

// nearHolds: what the elements of a name are to the i-th node, by the tree; and by the labels, as P8.7 says it.
func nearHolds(t *testing.T, x *names.Index, s sight, name string, i int, p api.Placed) {
	t.Helper()
	test := isNamed(name)
	var within, byLabels []api.Placed
	rank, back, next := 0, api.Handle(0), api.Handle(0)
	for j, q := range s.all {
		if !test(s.nodes[q.Node]) {
			continue
		}
		switch {
		case j < i:
			rank, back = rank+1, q.Node
		case j > i && next == 0:
			next = q.Node
		}
		if slices.Contains(s.in[p.Node], q.Node) {
			within = append(within, q)
		}
		if p.Span.Begin < q.Span.Begin && q.Span.Begin < p.Span.End {
			byLabels = append(byLabels, q)
		}
	}
	if got, e := x.Within(name, p.Node); e != api.OK || !slices.Equal(got, within) || !slices.Equal(got, byLabels) {
		t.Fatalf("Within(%q, %x): %v, %d; want %v", name, p.Node, got, e, within)
	}
	if got, ok, e := x.Next(name, p.Node); got != next || ok != (next != 0) || e != api.OK {
		t.Fatalf("Next(%q, %x): %x, %v, %d; want %x", name, p.Node, got, ok, e, next)
	}
	if got, ok, e := x.Back(name, p.Node); got != back || ok != (back != 0) || e != api.OK {
		t.Fatalf("Back(%q, %x): %x, %v, %d; want %x", name, p.Node, got, ok, e, back)
	}
	if got, e := x.Rank(name, p.Node); got != rank || e != api.OK {
		t.Fatalf("Rank(%q, %x): %d, %d; want %d", name, p.Node, got, e, rank)
	}
}
