package events

import (
	"espalier/api"
	"espalier/tree"
)

// Check lets events through as long as they can be.
func Check(s api.Source) api.Source {
	var c checker
	return lasting(func() (api.Event, api.Errno) {
		e, why := ask(s)
		switch why {
		case api.OK:
			why = c.look(e)
		case api.ErrDone:
			why = c.end()
		}
		return e, why
	})
}

// checker knows what the events so far have made: the names of the elements that are open, and how many nodes began.
type checker struct {
	open  []string
	nodes int
}

// look tells what is wrong with the next event.
func (c *checker) look(e api.Event) api.Errno {
	switch e.Kind {
	case api.Start:
		why := c.begin(api.Tree{Kind: api.Element, Name: e.Name, Attrs: e.Attrs})
		c.open = append(c.open, e.Name)
		return why
	case api.Words:
		return c.begin(api.Tree{Kind: api.Text, Text: e.Text})
	case api.End:
		if name, some := pop(&c.open); some && name == e.Name {
			return api.OK
		}
	}
	return api.ErrEvent
}

// begin tells what is wrong with a node that begins.
func (c *checker) begin(x api.Tree) api.Errno {
	if why := tree.Check(x); why != api.OK {
		return why
	}
	if len(c.open) == api.MaxDepth || c.nodes == api.MaxNodes {
		return api.ErrLong
	}
	c.nodes++
	return api.OK
}

// end tells whether events may end here.
func (c *checker) end() api.Errno {
	if len(c.open) > 0 {
		return api.ErrEvent
	}
	return api.ErrDone
}
