package tree_test

import (
	"testing"

	"espalier/api"
	"espalier/tree"
)

// P3.4: what is set is read, and nothing else is changed.
func TestSet(t *testing.T) {
	d := abc(t)
	want := d.Image()
	check := func(what string, e api.Errno) {
		t.Helper()
		answers(t, what, e, api.OK)
		unchanged(t, d, want)
	}
	want.Slots[1].Name = "B"
	check("SetName", d.SetName(hb, "B"))
	want.Slots[1].Name = long(api.MaxName)
	check("SetName", d.SetName(hb, long(api.MaxName)))
	want.Slots[3].Text = ""
	check("SetText", d.SetText(ht, ""))
	want.Slots[3].Text = long(api.MaxText)
	check("SetText", d.SetText(ht, long(api.MaxText)))
	want.Slots[0].Attrs[0].Value = ""
	check("SetAttr", d.SetAttr(ha, "k", ""))
	want.Slots[0].Attrs = []api.Attr{{Name: "k", Value: ""}, {Name: "m", Value: long(api.MaxText)}}
	check("SetAttr", d.SetAttr(ha, "m", long(api.MaxText)))
	want.Slots[0].Attrs = []api.Attr{{Name: "_", Value: "1"}, {Name: "k", Value: ""}, {Name: "m", Value: long(api.MaxText)}}
	check("SetAttr", d.SetAttr(ha, "_", "1"))
	want.Slots[0].Attrs = []api.Attr{{Name: "_", Value: "1"}, {Name: "k", Value: ""}, {Name: "ka", Value: "é"}, {Name: "m", Value: long(api.MaxText)}}
	check("SetAttr", d.SetAttr(ha, "ka", "é"))
	want.Slots[5].Attrs = []api.Attr{{Name: "k", Value: "v"}}
	check("SetAttr", d.SetAttr(he, "k", "v"))
	want.Slots[0].Attrs = []api.Attr{{Name: "_", Value: "1"}, {Name: "ka", Value: "é"}, {Name: "m", Value: long(api.MaxText)}}
	check("DropAttr", d.DropAttr(ha, "k"))
	want.Slots[0].Attrs = want.Slots[0].Attrs[:2]
	check("DropAttr", d.DropAttr(ha, "m"))
	want.Slots[0].Attrs = want.Slots[0].Attrs[1:]
	check("DropAttr", d.DropAttr(ha, "_"))
	want.Slots[0].Attrs = nil
	check("DropAttr", d.DropAttr(ha, "ka"))
}

// P3.4: names rise byte by byte, whatever the order in which they come.
func TestAttrsRise(t *testing.T) {
	var d tree.Doc
	n := insert(t, &d, api.Last, 0, el("a"))
	l := attrs(api.MaxAttrs)
	for i := range l {
		a := l[i*13%len(l)]
		answers(t, "SetAttr", d.SetAttr(n, a.Name, a.Value), api.OK)
		x, _ := d.Subtree(n)
		answers(t, "Check", tree.Check(x), api.OK)
	}
	x, _ := d.Get(n)
	if !same(x, with(el("a"), l...)) {
		t.Errorf("%v", x)
	}
	was := d.Image()
	answers(t, "one more", d.SetAttr(n, "z", "v"), api.ErrLong)
	answers(t, "one more, ahead", d.SetAttr(n, "A", "v"), api.ErrLong)
	answers(t, "a wrong name", d.SetAttr(n, "1", "v"), api.ErrName)
	answers(t, "a wrong value", d.SetAttr(n, "z", "\x00"), api.ErrText)
	unchanged(t, &d, was)
	answers(t, "another value", d.SetAttr(n, l[31].Name, "w"), api.OK)
	answers(t, "another value", d.SetAttr(n, l[0].Name, "w"), api.OK)
	answers(t, "DropAttr", d.DropAttr(n, l[7].Name), api.OK)
	answers(t, "as many again", d.SetAttr(n, "z", "v"), api.OK)
	answers(t, "one more", d.SetAttr(n, l[7].Name, "v"), api.ErrLong)
}

// P3.4: each error, and which of two comes first; nothing is changed by any.
func TestSetErrors(t *testing.T) {
	d := abc(t)
	was := d.Image()
	for _, h := range append(noNodes(), 0) {
		noNode(t, d, h)
	}
	tooLong := long(api.MaxText + 1)
	for _, name := range []string{"n", "", "1", long(api.MaxName + 1), "k"} {
		answers(t, "SetName of a text", d.SetName(ht, name), api.ErrKind)
		answers(t, "SetAttr of a text", d.SetAttr(ht, name, "\x00"), api.ErrKind)
		answers(t, "DropAttr of a text", d.DropAttr(ht, name), api.ErrKind)
	}
	for _, s := range []string{"", "t", "\x00", tooLong} {
		answers(t, "SetText of an element", d.SetText(ha, s), api.ErrKind)
		answers(t, "SetAttr of a wrong name", d.SetAttr(ha, "1", s), api.ErrName)
		answers(t, "SetAttr of a long name", d.SetAttr(ha, long(api.MaxName+1), s), api.ErrName)
	}
	for _, name := range []string{"", "1", "a b", "é", long(api.MaxName + 1)} {
		answers(t, "SetName", d.SetName(ha, name), api.ErrName)
		answers(t, "SetAttr", d.SetAttr(ha, name, ""), api.ErrName)
		answers(t, "DropAttr", d.DropAttr(ha, name), api.ErrNone)
	}
	answers(t, "SetText", d.SetText(ht, "a\x00"), api.ErrText)
	answers(t, "SetText", d.SetText(ht, tooLong), api.ErrLong)
	answers(t, "SetText", d.SetText(ht, tooLong+"\x00"), api.ErrLong)
	for _, name := range []string{"k", "z"} {
		answers(t, "SetAttr", d.SetAttr(ha, name, "a\x00"), api.ErrText)
		answers(t, "SetAttr", d.SetAttr(ha, name, tooLong), api.ErrLong)
	}
	for _, name := range []string{"", "j", "l", "K", "kk"} {
		answers(t, "DropAttr", d.DropAttr(ha, name), api.ErrNone)
	}
	answers(t, "DropAttr", d.DropAttr(he, "k"), api.ErrNone)
	unchanged(t, d, was)
}
