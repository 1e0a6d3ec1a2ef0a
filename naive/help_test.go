package naive_test

import (
	"fmt"
	"math/rand/v2"
	"reflect"
	"slices"
	"strings"
	"testing"

	"espalier/api"
	"espalier/markup"
	"espalier/naive"
	"espalier/path"
	"espalier/tree"
)

func dice(seed uint64) *rand.Rand { return rand.New(rand.NewPCG(seed, 16)) }

func pick[T any](r *rand.Rand, l []T) T { return l[r.IntN(len(l))] }

func el(name string, kids ...api.Tree) api.Tree {
	return api.Tree{Kind: api.Element, Name: name, Kids: kids}
}

func text(s string) api.Tree { return api.Tree{Kind: api.Text, Text: s} }

// hd is the handle of an index and a generation, by the document's words.
func hd(index, gen uint64) api.Handle { return api.Handle(gen*(1<<32) + index) }

// first is handles of the first generation.
func first(indexes ...uint64) []api.Handle {
	var l []api.Handle
	for _, i := range indexes {
		l = append(l, hd(i, 1))
	}
	return l
}

// load is a document of a markup.
func load(t *testing.T, s string) *tree.Doc {
	t.Helper()
	f, at, e := markup.Parse(s)
	if e != api.OK {
		t.Fatalf("%s: %d at %d", s, e, at)
	}
	return plant(t, f)
}

// plant is a document of a forest.
func plant(t *testing.T, f []api.Tree) *tree.Doc {
	t.Helper()
	d := &tree.Doc{}
	for _, x := range f {
		if _, e := d.Insert(api.Last, 0, x); e != api.OK {
			t.Fatal(e)
		}
	}
	return d
}

// ways is a document in which each axis has something to tell, from most of its nodes: several roots, texts among them, elements of one name in one another.
func ways(t *testing.T) *tree.Doc {
	return load(t, `t<a k="1"><b/>1<a k="2"><b>2</b><a/>x<b k="1"><c/></b></a><c>3</c><b/></a><b><a>1</a>y</b>u<a/>`)
}

// places is 0 and all nodes of a document.
func places(d *tree.Doc) []api.Handle {
	all, _ := d.All(0)
	return append([]api.Handle{0}, all...)
}

// noNodes is handles of no nodes of ways, 0 not among them.
func noNodes() []api.Handle {
	return []api.Handle{1, 2, 99, hd(0, 1), hd(1, 0), hd(1, 2), hd(40, 1), hd(1<<31, 1), hd(1<<32-1, 1<<32-1)}
}

// read is the query of a text.
func read(t *testing.T, s string) api.Query {
	t.Helper()
	q, at, e := path.Parse(s)
	if e != api.OK {
		t.Fatalf("%s: %d at %d", s, e, at)
	}
	return q
}

// expr is the expression of a text.
func expr(t *testing.T, s string) api.Expr {
	t.Helper()
	return read(t, "*["+s+"]").Paths[0].Steps[0].Preds[0]
}

// holder is a query with an expression as its only predicate.
func holder(e api.Expr) api.Query { return stepped(api.ChildAxis, api.TestNode, "", e) }

// stepped is a query of one step.
func stepped(axis, test int, name string, preds ...api.Expr) api.Query {
	s := api.Step{Axis: axis, Test: test, Name: name, Preds: preds}
	return api.Query{Paths: []api.Path{{Steps: []api.Step{s}}}}
}

// written is the text of a query.
func written(q api.Query) string {
	s, _ := path.Print(q)
	return s
}

// plain is a document for people.
func plain(d *tree.Doc) string {
	s, _ := markup.Print(d.Forest())
	return fmt.Sprintf("%.400s", s)
}

// leads: a text leads to these nodes, by all calls that tell it.
func leads(t *testing.T, d *tree.Doc, s string, want []api.Handle) {
	t.Helper()
	if l, at, e := naive.Ask(d, s); !slices.Equal(l, want) || at != 0 || e != api.OK {
		t.Errorf("Ask(%.200s): %x, %d, %d; want %x", s, l, at, e, want)
	}
	all(t, d, 0, read(t, s), want)
}

// all: a query leads from a node (of 0: from the document) to these nodes.
func all(t *testing.T, d *tree.Doc, n api.Handle, q api.Query, want []api.Handle) bool {
	t.Helper()
	if l, e := naive.From(d, n, q); !slices.Equal(l, want) || e != api.OK {
		t.Errorf("From(%x, %.300s): %x, %d; want %x", n, written(q), l, e, want)
		return false
	}
	if n != 0 {
		return true
	}
	if l, e := naive.Eval(d, q); !slices.Equal(l, want) || e != api.OK {
		t.Errorf("Eval(%.300s): %x, %d; want %x", written(q), l, e, want)
		return false
	}
	return true
}

// from is what a query leads to that can be.
func from(t *testing.T, d *tree.Doc, n api.Handle, q api.Query) []api.Handle {
	t.Helper()
	l, e := naive.From(d, n, q)
	if e != api.OK {
		t.Fatalf("From(%x, %.300s): %d", n, written(q), e)
	}
	return l
}

// same holds two values against each other; nil and empty lists are alike.
func same(a, b api.Value) bool {
	return a.Kind == b.Kind && a.Bool == b.Bool && a.Num == b.Num && a.None == b.None && a.Text == b.Text && slices.Equal(a.Texts, b.Texts)
}

// copyOf is something in memory of its own, spare room included.
func copyOf[T any](x T) T { return deep(reflect.ValueOf(x)).Interface().(T) }

func deep(v reflect.Value) reflect.Value {
	out := reflect.New(v.Type()).Elem()
	switch v.Kind() {
	case reflect.Struct:
		for i := range v.NumField() {
			out.Field(i).Set(deep(v.Field(i)))
		}
	case reflect.Slice:
		if v.IsNil() {
			return out
		}
		whole := v.Slice(0, v.Cap())
		out.Set(reflect.MakeSlice(v.Type(), v.Cap(), v.Cap()))
		for i := range v.Cap() {
			out.Index(i).Set(deep(whole.Index(i)))
		}
		out.Set(out.Slice(0, v.Len()))
	default:
		out.Set(v)
	}
	return out
}

// loop is an expression that holds itself.
func loop() api.Expr {
	l := []api.Expr{{Op: "call", Text: "not"}}
	l[0].Parts = l
	return l[0]
}

func repeat(s string, n int) string { return strings.Repeat(s, n) }
