package eval_test

import (
	"fmt"
	"math/rand/v2"
	"reflect"
	"slices"
	"strings"
	"testing"

	"espalier/api"
	"espalier/eval"
	"espalier/label"
	"espalier/markup"
	"espalier/path"
)

func dice(seed uint64) *rand.Rand { return rand.New(rand.NewPCG(seed, 15)) }

func pick[T any](r *rand.Rand, l []T) T { return l[r.IntN(len(l))] }

func el(name string, kids ...api.Tree) api.Tree {
	return api.Tree{Kind: api.Element, Name: name, Kids: kids}
}

func text(s string) api.Tree { return api.Tree{Kind: api.Text, Text: s} }

// hd is the handle of an index and a generation, by the document's words.
func hd(index, gen uint64) api.Handle { return api.Handle(gen*(1<<32) + index) }

// first is handles of the first generation.
func first(indexes ...uint64) []api.Handle {
	var l []api.Handle
	for _, i := range indexes {
		l = append(l, hd(i, 1))
	}
	return l
}

// load is a document of a markup.
func load(t *testing.T, s string) *label.Doc {
	t.Helper()
	f, at, e := markup.Parse(s)
	if e != api.OK {
		t.Fatalf("%s: %d at %d", s, e, at)
	}
	return plant(t, f)
}

// plant is a document of a forest.
func plant(t *testing.T, f []api.Tree) *label.Doc {
	t.Helper()
	d := &label.Doc{}
	for _, x := range f {
		if _, e := d.Insert(api.Last, 0, x); e != api.OK {
			t.Fatal(e)
		}
	}
	return d
}

func index(t *testing.T, d *label.Doc) *eval.Index {
	t.Helper()
	x, e := eval.New(d)
	if x == nil || e != api.OK {
		t.Fatal(e)
	}
	return x
}

// read is the query of a text.
func read(t *testing.T, s string) api.Query {
	t.Helper()
	q, at, e := path.Parse(s)
	if e != api.OK {
		t.Fatalf("%s: %d at %d", s, e, at)
	}
	return q
}

// written is the text of a query.
func written(q api.Query) string {
	s, _ := path.Print(q)
	return s
}

// plain is a document for people.
func plain(d *label.Doc) string {
	s, _ := markup.Print(d.Tree().Forest())
	return fmt.Sprintf("%.400s", s)
}

// leads: a text leads to these nodes, by all calls that tell it.
func leads(t *testing.T, x *eval.Index, s string, want []api.Handle) {
	t.Helper()
	if l, at, e := x.Ask(s); !slices.Equal(l, want) || at != 0 || e != api.OK {
		t.Errorf("Ask(%.200s): %x, %d, %d; want %x", s, l, at, e, want)
	}
	all(t, x, 0, read(t, s), want)
}

// all: a query leads from a node (of 0: from the document) to these nodes.
func all(t *testing.T, x *eval.Index, n api.Handle, q api.Query, want []api.Handle) bool {
	t.Helper()
	if l, e := x.From(n, q); !slices.Equal(l, want) || e != api.OK {
		t.Errorf("From(%x, %.300s): %x, %d; want %x", n, written(q), l, e, want)
		return false
	}
	if n != 0 {
		return true
	}
	one := append(slices.Clone(want), 0)[0]
	if l, e := x.Eval(q); !slices.Equal(l, want) || e != api.OK {
		t.Errorf("Eval(%.300s): %x, %d; want %x", written(q), l, e, want)
		return false
	}
	if m, e := x.Count(q); m != len(want) || e != api.OK {
		t.Errorf("Count(%.300s): %d, %d; want %d", written(q), m, e, len(want))
		return false
	}
	if m, e := x.First(q); m != one || e != api.OK {
		t.Errorf("First(%.300s): %x, %d; want %x", written(q), m, e, one)
		return false
	}
	return true
}

// copyOf is a query, or an expression, in memory of its own, spare room included.
func copyOf[T any](x T) T { return deep(reflect.ValueOf(x)).Interface().(T) }

func deep(v reflect.Value) reflect.Value {
	out := reflect.New(v.Type()).Elem()
	switch v.Kind() {
	case reflect.Struct:
		for i := range v.NumField() {
			out.Field(i).Set(deep(v.Field(i)))
		}
	case reflect.Slice:
		if v.IsNil() {
			return out
		}
		whole := v.Slice(0, v.Cap())
		out.Set(reflect.MakeSlice(v.Type(), v.Cap(), v.Cap()))
		for i := range v.Cap() {
			out.Index(i).Set(deep(whole.Index(i)))
		}
		out.Set(out.Slice(0, v.Len()))
	default:
		out.Set(v)
	}
	return out
}

// chain is so many elements, one in the other.
func chain(n int, name string) api.Tree {
	x := el(name)
	for range n - 1 {
		x = el(name, x)
	}
	return x
}

func repeat(s string, n int) string { return strings.Repeat(s, n) }
