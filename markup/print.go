package markup

import (
	"strings"

	"espalier/api"
	"espalier/chars"
	"espalier/tree"
)

// Print writes a forest in one form.
func Print(f []api.Tree) (string, api.Errno) {
	if e := check(f); e != api.OK {
		return "", e
	}
	var p printer
	p.siblings(f)
	if p.out.Len() > api.MaxBytes {
		return "", api.ErrLong
	}
	return p.out.String(), api.OK
}

// Normal is a forest as it comes back from its markup.
func Normal(f []api.Tree) ([]api.Tree, api.Errno) {
	if e := check(f); e != api.OK {
		return nil, e
	}
	list, fits := normal(f)
	if !fits {
		return nil, api.ErrLong
	}
	return list, api.OK
}

// check tells why a forest can't be: what is wrong with a tree goes ahead of there being too many nodes.
func check(f []api.Tree) api.Errno {
	nodes := 0
	for _, x := range f {
		if e := tree.Check(x); e != api.OK {
			return e
		}
		nodes += count(x)
	}
	if nodes > api.MaxNodes {
		return api.ErrLong
	}
	return api.OK
}

// count is how many nodes a tree has.
func count(x api.Tree) int {
	n := 1
	if x.Kind == api.Element {
		for _, k := range x.Kids {
			n += count(k)
		}
	}
	return n
}

// printer writes markup. When it is too long already, no more is written: what is left could be far longer still.
type printer struct{ out strings.Builder }

func (p *printer) full() bool { return p.out.Len() > api.MaxBytes }

func (p *printer) put(parts ...string) {
	for _, s := range parts {
		p.out.WriteString(s)
	}
}

// words writes a text, or a value (quote).
func (p *printer) words(s string, quote bool) {
	escaped, _, _ := chars.Escape(s, quote)
	p.put(escaped)
}

func (p *printer) siblings(l []api.Tree) {
	for _, x := range l {
		switch {
		case p.full():
			return
		case x.Kind == api.Text:
			p.words(x.Text, false)
		default:
			p.element(x)
		}
	}
}

func (p *printer) element(x api.Tree) {
	p.put("<", x.Name)
	for _, a := range x.Attrs {
		if p.full() {
			return
		}
		p.put(" ", a.Name, `="`)
		p.words(a.Value, true)
		p.put(`"`)
	}
	if hollow(x.Kids) {
		p.put("/>")
		return
	}
	p.put(">")
	p.siblings(x.Kids)
	p.put("</", x.Name, ">")
}

// hollow tells whether siblings are written as nothing.
func hollow(l []api.Tree) bool {
	for _, x := range l {
		if x.Kind != api.Text || x.Text != "" {
			return false
		}
	}
	return true
}

// normal is the normal form of siblings that can be; false, if a text in it is too long.
func normal(l []api.Tree) ([]api.Tree, bool) {
	var out []api.Tree
	for _, x := range l {
		if x.Kind == api.Text {
			out = join(out, x.Text)
			if len(out) > 0 && len(out[len(out)-1].Text) > api.MaxText {
				return nil, false
			}
			continue
		}
		kids, fits := normal(x.Kids)
		if !fits {
			return nil, false
		}
		attrs := append([]api.Attr(nil), x.Attrs...)
		out = append(out, api.Tree{Kind: api.Element, Name: x.Name, Attrs: attrs, Kids: kids})
	}
	return out, true
}

// join puts a text behind siblings: it becomes one with the text that is the last of them; an empty one goes.
func join(l []api.Tree, s string) []api.Tree {
	if s == "" {
		return l
	}
	if n := len(l); n > 0 && l[n-1].Kind == api.Text {
		l[n-1].Text += s
		return l
	}
	return append(l, api.Tree{Kind: api.Text, Text: s})
}
