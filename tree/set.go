package tree

import (
	"slices"
	"strings"

	"espalier/api"
	"espalier/chars"
)

// SetName gives an element another name.
func (d *Doc) SetName(n api.Handle, name string) api.Errno {
	s, e := d.findKind(n, api.Element)
	if e != api.OK {
		return e
	}
	if !chars.Name(name) {
		return api.ErrName
	}
	s.Name = name
	return api.OK
}

// SetText gives a text other words.
func (d *Doc) SetText(n api.Handle, text string) api.Errno {
	s, e := d.findKind(n, api.Text)
	if e != api.OK {
		return e
	}
	if _, e := chars.Text(text); e != api.OK {
		return e
	}
	s.Text = text
	return api.OK
}

// SetAttr gives an element an attribute, in the place of one of that name, if it has one.
func (d *Doc) SetAttr(n api.Handle, name, value string) api.Errno {
	s, e := d.findKind(n, api.Element)
	if e != api.OK {
		return e
	}
	if !chars.Name(name) {
		return api.ErrName
	}
	if _, e := chars.Text(value); e != api.OK {
		return e
	}
	i, has := findAttr(s.Attrs, name)
	if has {
		s.Attrs[i].Value = value
		return api.OK
	}
	if len(s.Attrs) >= api.MaxAttrs {
		return api.ErrLong
	}
	s.Attrs = slices.Insert(s.Attrs, i, api.Attr{Name: name, Value: value})
	return api.OK
}

// DropAttr takes an attribute away from an element.
func (d *Doc) DropAttr(n api.Handle, name string) api.Errno {
	s, e := d.findKind(n, api.Element)
	if e != api.OK {
		return e
	}
	i, has := findAttr(s.Attrs, name)
	if !has {
		return api.ErrNone
	}
	s.Attrs = slices.Delete(s.Attrs, i, i+1)
	return api.OK
}

// findKind is the slot of a live node that has to be of a kind.
func (d *Doc) findKind(n api.Handle, kind int) (*api.Slot, api.Errno) {
	s := d.find(n)
	if s == nil {
		return nil, api.ErrNode
	}
	if s.Kind != kind {
		return nil, api.ErrKind
	}
	return s, api.OK
}

// findAttr is where an attribute of a name stands, or would stand, and whether it does.
func findAttr(l []api.Attr, name string) (int, bool) {
	return slices.BinarySearchFunc(l, name, func(a api.Attr, name string) int {
		return strings.Compare(a.Name, name)
	})
}
